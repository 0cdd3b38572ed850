/- What is proved: what the walks of this seat need of layers below, merged out of the texts Nd (of each just what is needed). Conditions: each theorem names its own. -/
import Derived.Deep.CutBlock
import Derived.Deep.DeepCutAuto
import Derived.Test.YtgmohgofcjemkaaDoorBd
import Derived.Test.YtgmohgofcjemkaaDoorBk
import Derived.Test.YtgmohgofcjemkaaDoorBm
import Derived.Test.YtgmohgofcjemkaaDoorNa
/- What is proved: texts, each once, by their bytes, by the document. Conditions: the list's cells are there; at most a hundred thousand texts. -/
namespace Go.Proofs.YtgmohgofcjemkaaDoor
open Go.RowKit Go.Sort Go.Shelf
set_option linter.unusedVariables false
/-- Texts, each once, rising. -/
def unl (l : List (List UInt8)) : List (List UInt8) := l.foldl insN []
theorem unl_snoc (l : List (List UInt8)) (x : List UInt8) : unl (l ++ [x]) = insN (unl l) x := by simp [unl, List.foldl_append]
theorem unl_len (l : List (List UInt8)) : (unl l).length ≤ l.length := by
  suffices h : ∀ (l out : List (List UInt8)), (l.foldl insN out).length ≤ out.length + l.length by simpa [unl] using h l []
  intro l
  induction l with
  | nil => intro out; simp
  | cons x l ih =>
    intro out
    have h1 := ih (insN out x)
    have h2 := insN_len out x
    rw [List.foldl_cons, List.length_cons]; omega
theorem txt_snoc (l : List (List UInt8)) (k : Nat) (h : k < l.length) : l.take (k + 1) = l.take k ++ [l.getD k []] := by
  rw [List.take_add_one, List.getElem?_eq_getElem h, List.getD_eq_getElem?_getD, List.getElem?_eq_getElem h]; rfl
theorem OwnS.baseU {w0 w1 w : World} {v : Value} {ps : List (List UInt8)} (h : OwnS w1 w v ps) (f : Fr (fun _ => False) w0 w1) : OwnS w0 w v ps := by
  refine ⟨⟨h.1.1, ?_⟩, f.trans h.2 (fun _ _ e => e)⟩
  rcases h.1.2 with h0 | ⟨g, cap, cur, hv, hb, r⟩
  · exact .inl h0
  · exact .inr ⟨g, cap, cur, hv, Nat.le_trans f.size hb, r⟩
set_option maxHeartbeats 6400000 in
set_option maxRecDepth 100000 in
theorem QbUnlike_any (A : Option Addr) (c : Nat) (es : List (List UInt8)) (hn : es.length ≤ 100000) (w2 : World) (hA : Lies w2 A (strM es)) :
    Calls Tryd.prog 18 #[.slice A es.length c] w2 fun e w' => ∃ v, e = .returned v ∧ OwnS w2 w' v (unl es) := by
  obtain ⟨j0, hj, hy0, hy1, hy2⟩ := info_parts infoM
  obtain ⟨L, hL⟩ : ∃ L, es.length = L := ⟨_, rfl⟩
  have HLn := Lib.hid hL
  rw [hL] at hn ⊢
  have hLb : L ≤ 100000 := hn
  have HL2 := Lib.hid hA
  have HF2 := Lib.hid (Fr.refl (fun _ => False) w2)
  clear hA hL hn
  go_enter Tryd.func18, Tryd.ntmps18
  go_wp2_with fail
  go_loopg [3, 4] L (fun kx v s7 wr => ∃ k : Nat, k ≤ L ∧ s7 = .int .i64 k ∧ L - k ≤ kx ∧ OwnS w2 wr v (unl (es.take k)))
  case atStart => exact ⟨0, by omega, rfl, by omega, OwnS.nil (Fr.refl _ w2)⟩
  case round =>
    obtain ⟨k, hk, rfl, hkx, ho⟩ := hrel
    obtain ⟨wo, rfl⟩ : ∃ wo, wo = wr := ⟨wr, rfl⟩
    have wk := wrap_nat k (by omega)
    by_cases hlt : k < L
    · have hk0 : (k : Int) < L := by omega
      have hsn := txt_snoc es k (by rw [HLn.out]; exact hlt)
      have hml := unl_len (es.take k)
      rw [List.length_take, HLn.out] at hml
      obtain ⟨b, o, hA, hcA⟩ := lies_nameM HL2.out (Fr.refl _ w2) (by rw [HLn.out]; omega)
      subst hA
      have HXc := Lib.hid (fun w' (f : Fr (fun _ => False) w2 w') => f.cell (hcA k (by rw [HLn.out]; exact hlt)) (fun e => e))
      obtain ⟨x, hx⟩ : ∃ x, es.getD k [] = x := ⟨_, rfl⟩
      rw [hx] at hsn HXc
      clear hcA
      obtain ⟨out, hout⟩ : ∃ out, unl (es.take k) = out := ⟨_, rfl⟩
      have HNx : Hid (unl (es.take (k + 1)) = insN out x) := Lib.hid (by rw [hsn, unl_snoc, hout])
      rw [hout] at ho hml
      obtain ⟨Ao, co, rfl, hoc, hom, hoA, holies⟩ := ho.slice
      have HO := Lib.hid ho
      have HOL := Lib.hid holies
      obtain ⟨m, hm⟩ : ∃ m, out.length = m := ⟨_, rfl⟩
      have HMm := Lib.hid hm
      have HOC := Lib.hid hoc
      rw [hm] at hml hoc ⊢
      have hmk : m ≤ 100000 := by omega
      obtain ⟨p, hp⟩ : ∃ p, atN out x = p := ⟨_, rfl⟩
      have HP := Lib.hid hp
      have hpm : p ≤ m := by rw [← hp, ← hm]; exact atN_le _ _
      have HBL : Hid (∀ i, i < p → ltB (out.getD i []) x = true) := Lib.hid (fun i h => atN_below (by rw [hp]; exact h))
      have HBH : Hid (p < m → ltB (out.getD p []) x = false) := Lib.hid (fun h => by have := atN_here (out := out) (n := x) (by rw [hp, hm]; exact h); rwa [hp] at this)
      have HHas : Hid (p < m → out.getD p [] = x → insN out x = out) := Lib.hid (fun h e => insN_has (by rw [hp, hm]; exact h) (by rw [hp]; exact e))
      have HNew : Hid ((p < m → out.getD p [] ≠ x) → insN out x = out.take p ++ [x] ++ out.drop p) := Lib.hid (fun h => by
        have := insN_new (out := out) (n := x) (by rw [hp, hm]; exact h)
        rwa [hp] at this)
      have HS1 := Lib.hid (fun w => slice_hdM Ao hoA m co p (by omega) w)
      have HS2 := Lib.hid (fun w => slice_tlM Ao m co p hpm w)
      -- the name, later
      have HXN : Hid (∀ w', Fr (fun _ => False) wo w' → w'.cell? ⟨b, o + k, none⟩ = some (.string (strB x))) := Lib.hid (fun w' f => HXc.out w' (HO.out.2.trans f (fun _ _ e => e)))
      have HON : Hid (0 < m → ∃ bo oo, Ao = some ⟨bo, oo, none⟩ ∧ ∀ w', Fr (fun _ => False) wo w' → ∀ i, i < m → w'.cell? ⟨bo, oo + i, none⟩ = some (.string (strB (out.getD i [])))) := Lib.hid (fun h => by
        obtain ⟨bo, oo, hA, _⟩ := lies_nameM HOL.out (Fr.refl _ wo) (by rw [HMm.out]; exact h)
        refine ⟨bo, oo, hA, fun w' f i hi => ?_⟩
        obtain ⟨bo', oo', hA', hc⟩ := lies_nameM HOL.out f (by rw [HMm.out]; exact h)
        rw [hA] at hA'
        cases hA'
        exact hc i (by rw [HMm.out]; exact hi))
      obtain ⟨S, hS⟩ : ∃ S, strB x = S := ⟨_, rfl⟩
      have HSS := Lib.hid hS
      rw [hS] at HXN
      clear hsn hx hout ho holies hm hp hoc hom hS
      go_upto_block 2 with fail
      go_cut [5] (fun s8 wc => s8 = .int .i64 p ∧ Fr (fun _ => False) wo wc)
      case first =>
        go_wp2_with fail
        go_loopg [5] m (fun kx s8 wr => ∃ a : Nat, a ≤ p ∧ s8 = .int .i64 a ∧ m - a ≤ kx ∧ Fr (fun _ => False) wo wr)
        case atStart => exact ⟨0, Nat.zero_le _, rfl, by omega, Fr.refl _ _⟩
        case round =>
          obtain ⟨a, ha, rfl, hax, hf⟩ := hrel
          obtain ⟨wi, rfl⟩ : ∃ wi, wi = wr := ⟨wr, rfl⟩
          have HFr := Lib.hid hf
          clear hf
          have wa := wrap_nat a (by omega)
          by_cases ham : a = m
          · have HAP : Hid (a = p) := Lib.hid (by omega)
            subst ham
            have hno : ¬ ((a : Int) < (a : Int)) := by omega
            have hno2 : ¬ (a < a) := by omega
            have hno3 : decide (a < a) = false := decide_eq_false hno2
            go_wp2_with fail
            go_region
            go_wp2_with fail
            go_meet
            case rel => exact ⟨by rw [HAP.out], HFr.out.drew⟩
          · have ham2 : a < m := by omega
            have hai : (a : Int) < m := by omega
            have had : decide (a < m) = true := decide_eq_true ham2
            obtain ⟨bo, oo, hAo, hc⟩ := HON.out (by omega)
            subst hAo
            have cx1 : ∀ q : Later wi, q.w'.cell? ⟨b, o + k, none⟩ = some (.string S) := fun q => HXN.out _ (HFr.out.trans q.fr (fun _ _ e => e))
            have cx2 : ∀ q : Later wi, q.w'.cell? ⟨bo, oo + a, none⟩ = some (.string (strB (out.getD a []))) := fun q => hc _ (HFr.out.trans q.fr (fun _ _ e => e)) a ham2
            have hls := lt_str (out.getD a []) x
            rw [HSS.out] at hls
            by_cases hap : a < p
            · rw [HBL.out a hap] at hls
              obtain ⟨S2, hS2⟩ : ∃ S2, strB (out.getD a []) = S2 := ⟨_, rfl⟩
              rw [hS2] at hls cx2
              clear hS2 hc
              go_upto_region 6 with fail
              (
                refine wp_region_later (w0 := wi) (Fr.refl _ _) (by kernel_rfl) (by kernel_rfl) ?_
                repeat (quiet_step (fail))
                refine wpQuiet_nil ?_
                intro _ hw'
                obtain ⟨q, hw''⟩ := hw'
                subst hw'')
              go_wp2_with fail
              go_roundg (m - (a + 1))
              case measure => omega
              case rel => exact ⟨a + 1, by omega, by go_num, Nat.le_refl _, HFr.out.trans q.fr (fun _ _ e => e)⟩
            · have HAP : Hid (a = p) := Lib.hid (by omega)
              have hbh := HBH.out (by omega)
              rw [← HAP.out] at hbh
              rw [hbh] at hls
              obtain ⟨S2, hS2⟩ : ∃ S2, strB (out.getD a []) = S2 := ⟨_, rfl⟩
              rw [hS2] at hls cx2
              clear hS2 hc hbh
              go_upto_region 6 with fail
              (
                refine wp_region_later (w0 := wi) (Fr.refl _ _) (by kernel_rfl) (by kernel_rfl) ?_
                repeat (quiet_step (fail))
                refine wpQuiet_nil ?_
                intro _ hw'
                obtain ⟨q, hw''⟩ := hw'
                subst hw'')
              go_wp2_with fail
              go_meet
              case rel => exact ⟨by rw [HAP.out], HFr.out.trans q.fr (fun _ _ e => e)⟩
      case rest =>
        obtain ⟨rfl, hfc⟩ := hcut
        have HFC := Lib.hid hfc
        have hlt1 : (out.take p).length = p := by rw [List.length_take, HMm.out]; omega
        have hld1 : (out.drop p).length = m - p := by rw [List.length_drop, HMm.out]
        have HLT1 := Lib.hid hlt1
        have HLD1 := Lib.hid hld1
        have HSX := Lib.hid (show strM [x] = [.string S] from by rw [← HSS.out]; rfl)
        have hs1 := HS1.out
        have hs2 := HS2.out
        have wp' := wrap_nat p (by omega)
        obtain ⟨d, hd⟩ : ∃ d, m - p = d := ⟨_, rfl⟩
        obtain ⟨cd, hcd⟩ : ∃ d, co - p = d := ⟨_, rfl⟩
        have hdb : p + d ≤ 100000 := by omega
        rw [hd] at HLD1
        rw [hd, hcd] at hs2
        clear hlt1 hld1 hfc hd hcd
        by_cases hpmm : p = m
        · have HNW := Lib.hid (HNew.out (fun h => by omega))
          clear HBL HBH HHas HNew HON HP
          have hno : ¬ ((p : Int) < (m : Int)) := by omega
          have hno2 : ¬ (p < m) := by omega
          have hno3 : decide (p < m) = false := decide_eq_false hno2
          clear hpmm
          go_step
          go_wp2_with fail
          go_region
          obtain ⟨wz, hwz⟩ : ∃ wz, wc.drew = wz := ⟨_, rfl⟩
          have HFz := Lib.hid (show Fr (fun _ => False) wo wz from by rw [← hwz]; exact HFC.out.drew)
          rw [hwz]
          clear hwz
          (
            have HFW := Lib.hid (HO.out.2.trans HFz.out (fun _ _ e => e))
            have HT1 := Lib.hid ((HOL.out.fr HFz.out (fun _ _ e => e)).takeM p)
            have HTL := Lib.hid ((HOL.out.fr HFz.out (fun _ _ e => e)).tlM co p HOC.out)
            go_wp2_with (first
              | (have _ := M2
                 at_builtin; refine wpList_append_row _ rfl (.tmp 57) (.tmp 60) 22 22 rfl w2.heap.size 9 j0 (.string (strB [])) 1 16 Tryd.underlying22 hj hy0 hy1 hy2 rfl _ (p + 1) _ rfl N5.out.1.1 _ d (strM (out.drop p)) rfl (Lies.srcM N5.out.2 HLD1.out cd) (by unfold maxLen; omega) (by omega) N5.out.1.2.size ?_
                 intro v6 w6 o3 g3 at3)
              | (have _ := M1
                 at_builtin; refine wpList_append_row _ rfl (.tmp 50) (.tmp 55) 22 22 rfl w2.heap.size 9 j0 (.string (strB [])) 1 16 Tryd.underlying22 hj hy0 hy1 hy2 rfl _ p _ rfl (N4.out.1.1.alloc _) _ 1 (strM [x]) rfl (by rw [HSX.out]; exact src_one Tryd.underlying22 _ _ rfl) (by unfold maxLen; omega) (by omega) (by have := N4.out.1.2.size; simp; omega) ?_
                 intro v5 w5 o2 g2 at2
                 have M2 := True.intro
                 have N5 := Lib.hid (second_factsM w2 wz w4 w5 v4 v5 x p (out.take p) Ao co (out.drop p) N4.out HTL.out o2 _ g2)
                 clear o2 g2 at2)
              | (at_builtin; refine wpList_append_row _ rfl (.tmp 45) (.tmp 48) 22 22 rfl w2.heap.size 9 j0 (.string (strB [])) 1 16 Tryd.underlying22 hj hy0 hy1 hy2 rfl (.slice none 0 0) 0 [] rfl (World.ownsRow_nil _ _ _ _) (.slice Ao p co) p (strM (out.take p)) rfl (Lies.srcM HT1.out HLT1.out co) (by unfold maxLen; omega) (by omega) HFW.out.size ?_
                 intro v4 w4 o1 g1 at1
                 have M1 := True.intro
                 have N4 := Lib.hid (first_factsM w2 wz w4 v4 p (strM (out.take p)) HFW.out o1 g1 at1)
                 have cx4 := HXN.out w4 (HFz.out.trans N4.out.2.1 (fun _ _ e => e))
                 clear o1 g1 at1))
            have n3 : OwnS w2 w6 v6 (unl (es.take (k + 1))) := by
              rw [HNx.out, HNW.out]
              refine ⟨?_, fr_append N5.out.1.1 N5.out.1.2 g3⟩
              rw [strM_append, List.length_append, List.length_append, HLT1.out, HLD1.out]
              exact o3
            have N3 := Lib.hid n3
            clear n3 o3 g3 at3
            go_roundg (L - (k + 1))
            case measure => omega
            case rel => exact ⟨k + 1, by omega, by go_num, Nat.le_refl _, N3.out⟩)
        · have hplt : p < m := by omega
          have hpi : (p : Int) < m := by omega
          have hpd : decide (p < m) = true := decide_eq_true hplt
          obtain ⟨bo, oo, hAo, hc⟩ := HON.out (by omega)
          subst hAo
          have cx1 : ∀ q : Later wc, q.w'.cell? ⟨b, o + k, none⟩ = some (.string S) := fun q => HXN.out _ (HFC.out.trans q.fr (fun _ _ e => e))
          have cx2 : ∀ q : Later wc, q.w'.cell? ⟨bo, oo + p, none⟩ = some (.string (strB (out.getD p []))) := fun q => hc _ (HFC.out.trans q.fr (fun _ _ e => e)) p hplt
          by_cases hpe : out.getD p [] = x
          · have HNW := Lib.hid (HHas.out hplt hpe)
            rw [hpe, HSS.out] at cx2
            clear HBL HBH HHas HNew HON HP hc hpe
            go_step
            go_upto_region 8 with fail
            (
              refine wp_region_later (w0 := wc) (Fr.refl _ _) (by kernel_rfl) (by kernel_rfl) ?_
              repeat (quiet_step (fail))
              refine wpQuiet_nil ?_
              intro _ hw'
              obtain ⟨q, hw''⟩ := hw'
              subst hw'')
            go_wp2_with fail
            go_roundg (L - (k + 1))
            case measure => omega
            case rel => exact ⟨k + 1, by omega, by go_num, Nat.le_refl _, by rw [HNx.out, HNW.out]; have := HO.out.fr (HFC.out.trans q.fr (fun _ _ e => e)); rw [HMm.out] at this; exact this⟩
          · have HNW := Lib.hid (HNew.out (fun _ => hpe))
            obtain ⟨S2, hS2⟩ : ∃ S2, strB (out.getD p []) = S2 := ⟨_, rfl⟩
            have hne : ¬ S2.toList = S.toList := by rw [← hS2, ← HSS.out, strB_list, strB_list]; exact hpe
            have hne2 : (S2.toList == S.toList) = false := beq_eq_false_iff_ne.2 hne
            have hne3 : ¬ S2 = S := fun e => hne (by rw [e])
            have hne4 : decide (S2 = S) = false := decide_eq_false hne3
            rw [hS2] at cx2
            clear HBL HBH HHas HNew HON HP hc hpe hS2
            go_step
            go_upto_region 8 with fail
            (
              refine wp_region_later (w0 := wc) (Fr.refl _ _) (by kernel_rfl) (by kernel_rfl) ?_
              repeat (quiet_step (fail))
              refine wpQuiet_nil ?_
              intro _ hw'
              obtain ⟨q, hw''⟩ := hw'
              subst hw'')
            obtain ⟨wz, hwz⟩ : ∃ wz, q.w' = wz := ⟨_, rfl⟩
            have HFz := Lib.hid (show Fr (fun _ => False) wo wz from by rw [← hwz]; exact HFC.out.trans q.fr (fun _ _ e => e))
            rw [hwz]
            clear hwz
            (
              have HFW := Lib.hid (HO.out.2.trans HFz.out (fun _ _ e => e))
              have HT1 := Lib.hid ((HOL.out.fr HFz.out (fun _ _ e => e)).takeM p)
              have HTL := Lib.hid ((HOL.out.fr HFz.out (fun _ _ e => e)).tlM co p HOC.out)
              go_wp2_with (first
                | (have _ := M2
                   at_builtin; refine wpList_append_row _ rfl (.tmp 57) (.tmp 60) 22 22 rfl w2.heap.size 9 j0 (.string (strB [])) 1 16 Tryd.underlying22 hj hy0 hy1 hy2 rfl _ (p + 1) _ rfl N5.out.1.1 _ d (strM (out.drop p)) rfl (Lies.srcM N5.out.2 HLD1.out cd) (by unfold maxLen; omega) (by omega) N5.out.1.2.size ?_
                   intro v6 w6 o3 g3 at3)
                | (have _ := M1
                   at_builtin; refine wpList_append_row _ rfl (.tmp 50) (.tmp 55) 22 22 rfl w2.heap.size 9 j0 (.string (strB [])) 1 16 Tryd.underlying22 hj hy0 hy1 hy2 rfl _ p _ rfl (N4.out.1.1.alloc _) _ 1 (strM [x]) rfl (by rw [HSX.out]; exact src_one Tryd.underlying22 _ _ rfl) (by unfold maxLen; omega) (by omega) (by have := N4.out.1.2.size; simp; omega) ?_
                   intro v5 w5 o2 g2 at2
                   have M2 := True.intro
                   have N5 := Lib.hid (second_factsM w2 wz w4 w5 v4 v5 x p (out.take p) (some ⟨bo, oo, none⟩) co (out.drop p) N4.out HTL.out o2 _ g2)
                   clear o2 g2 at2)
                | (at_builtin; refine wpList_append_row _ rfl (.tmp 45) (.tmp 48) 22 22 rfl w2.heap.size 9 j0 (.string (strB [])) 1 16 Tryd.underlying22 hj hy0 hy1 hy2 rfl (.slice none 0 0) 0 [] rfl (World.ownsRow_nil _ _ _ _) (.slice (some ⟨bo, oo, none⟩) p co) p (strM (out.take p)) rfl (Lies.srcM HT1.out HLT1.out co) (by unfold maxLen; omega) (by omega) HFW.out.size ?_
                   intro v4 w4 o1 g1 at1
                   have M1 := True.intro
                   have N4 := Lib.hid (first_factsM w2 wz w4 v4 p (strM (out.take p)) HFW.out o1 g1 at1)
                   have cx4 := HXN.out w4 (HFz.out.trans N4.out.2.1 (fun _ _ e => e))
                   clear o1 g1 at1))
              have n3 : OwnS w2 w6 v6 (unl (es.take (k + 1))) := by
                rw [HNx.out, HNW.out]
                refine ⟨?_, fr_append N5.out.1.1 N5.out.1.2 g3⟩
                rw [strM_append, List.length_append, List.length_append, HLT1.out, HLD1.out]
                exact o3
              have N3 := Lib.hid n3
              clear n3 o3 g3 at3
              go_roundg (L - (k + 1))
              case measure => omega
              case rel => exact ⟨k + 1, by omega, by go_num, Nat.le_refl _, N3.out⟩)
    · obtain rfl : k = L := by omega
      have hall : es.take k = es := List.take_of_length_le (by rw [HLn.out]; exact Nat.le_refl _)
      rw [hall] at ho
      have HO := Lib.hid ho
      obtain ⟨Ao, co, rfl, _⟩ := ho.slice
      clear ho hall
      go_wp2_with fail
      go_ret
      exact ⟨_, rfl, HO.out.baseU HF2.out⟩
theorem OwnS.grow {w0 w w' : World} {v v' : Value} {ps : List (List UInt8)} {x : List UInt8} (h : OwnS w0 w v ps) (o : w'.ownsRow w0.heap.size 9 1 v' (ps.length + 1) (strM ps ++ strM [x])) (g : w.grownBy w' v.ownBlock) : OwnS w0 w' v' (ps ++ [x]) := by
  refine ⟨?_, fr_append h.1 h.2 g⟩
  rw [List.length_append, strM_append]
  exact o
end Go.Proofs.YtgmohgofcjemkaaDoor

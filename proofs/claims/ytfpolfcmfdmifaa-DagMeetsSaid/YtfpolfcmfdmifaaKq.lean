/- What is proved: heads, ancestors of some that are none of others, and where two nodes meet, by the document. Conditions: the cells are there, the graph right, the numbers nodes'. -/
import Derived.Test.YtfpolfcmfdmifaaKo
import Derived.Test.YtfpolfcmfdmifaaKp
namespace Go.Proofs.Ytfpolfcmfdmifaa
open Go.RowKit Go.Shelf
set_option linter.unusedVariables false

theorem OwnN.len {w0 w : World} {A : Option Addr} {n c : Nat} {l : List Nat} (h : OwnN w0 w (.slice A n c) l) : n = l.length := by
  obtain ⟨B, d, hv, _⟩ := h.shape
  injection hv
theorem OwnN.addr {w0 w : World} {A : Option Addr} {n c : Nat} {l : List Nat} (h : OwnN w0 w (.slice A n c) l) : ∀ ad, A = some ad → w0.heap.size ≤ ad.block := by
  intro ad e
  rcases own_shape h.1 with ⟨hv, _⟩ | ⟨g, cap, hv, _, _, hb⟩
  · injection hv with h1; rw [h1] at e; cases e
  · injection hv with h1; rw [h1] at e; injection e with e; rw [← e]; exact hb
theorem hd_sel (pr : Nat → List Nat) (N : Nat) (X : Nat → Bool) (k : Nat) (hk : k < N) : hdB pr N (fun j => decide (j ∈ selB X N)) k = topB pr N X k := by
  have e : ∀ j, j < N → decide (j ∈ selB X N) = X j := fun j hj => by
    rw [Bool.eq_iff_iff, decide_eq_true_eq, mem_selB]
    exact ⟨fun h => h.2, fun h => ⟨hj, h⟩⟩
  rw [hd_top]
  unfold topB
  show (decide (k ∈ selB X N) && !((List.range N).any fun d => decide (k < d) && upB pr N [d] k && decide (d ∈ selB X N))) = _
  rw [e k hk]
  congr 2
  rw [Bool.eq_iff_iff, List.any_eq_true, List.any_eq_true]
  constructor
  · rintro ⟨d, hd, h⟩
    rw [e d (List.mem_range.1 hd)] at h
    exact ⟨d, hd, h⟩
  · rintro ⟨d, hd, h⟩
    refine ⟨d, hd, ?_⟩
    rw [e d (List.mem_range.1 hd)]
    exact h

set_option maxHeartbeats 3200000 in
set_option maxRecDepth 100000 in
theorem QaHeads_any (A : Option Addr) (c : Nat) (G : List Nd) (B : Option Addr) (cB : Nat) (l : List Nat) (hR : RightG G) (hn : l.length ≤ 100000) (hl : ∀ x ∈ l, x < G.length) (w : World) (hG : GAt w A G) (h : Lies w B (nC l)) :
    Calls Try.prog 27 #[.slice A G.length c, .slice B l.length cB] w fun e w' => ∃ v, e = .returned v ∧ OwnN w w' v (selB (hdB (prG G) G.length (fun k => decide (k ∈ l))) G.length) := by
  have hmk := make_bools G.length (by have := hR.len; omega) w
  have HLs := Lib.hid (fun w' (f : Fr (fun _ => False) w w') k hk => lies_nat h f k hk)
  have HX : Hid (∀ k, k < l.length → l.getD k 0 < G.length) := Lib.hid (fun k hk => hl _ (by rw [List.getD_eq_getElem?_getD, List.getElem?_eq_getElem hk]; exact List.getElem_mem hk))
  have HUp := Lib.hid (fun (x : Nat) (hx : x < G.length) w1 g (f : Fr (fun _ => False) w w1) (h1 : Lies w1 (some ⟨g, 0, none⟩) (nC [x])) => QaUp_any A c G (some ⟨g, 0, none⟩) 1 [x] hR (by simp) (by simpa using hx) w1 (hG.fr f) h1)
  simp only [List.length_cons, List.length_nil, Nat.zero_add] at HUp
  have HLi := Lib.hid (fun w1 g f (h1 : Whole w1 g 4 (rowC (boolC f) G.length)) => QaList_any g G.length f (by have := hR.len; omega) w1 h1)
  have HTl := Lib.hid (List.take_length (l := l))
  have HTk := Lib.hid (nat_snoc l)
  have hlen := hR.len
  have HM := Lib.hid (mem_selB (fun k => decide (k ∈ l)) G.length)
  have HSl := Lib.hid (selB_len (fun k => decide (k ∈ l)) G.length)
  have HFin : Hid (∀ f : Nat → Bool, (∀ k, f k = (decide (k ∈ l) && !((selB (fun k => decide (k ∈ l)) G.length).any fun d => decide (k < d) && upB (prG G) G.length [d] k))) → selB f G.length = selB (hdB (prG G) G.length (fun k => decide (k ∈ l))) G.length) := Lib.hid (fun f hf => selB_congr (fun k _ => hf k))
  obtain ⟨N, hN⟩ : ∃ N, G.length = N := ⟨_, rfl⟩
  have HN := Lib.hid hN
  obtain ⟨L, hL⟩ : ∃ L, l.length = L := ⟨_, rfl⟩
  rw [hN] at hmk HX HUp HLi hlen HM HFin HSl ⊢
  rw [hL] at hn HLs HX HTl HTk ⊢
  obtain ⟨own, hown⟩ : ∃ o, selB (fun k => decide (k ∈ l)) N = o := ⟨_, rfl⟩
  have HOwn := Lib.hid hown
  rw [hown] at HM HFin HSl
  obtain ⟨T, hTT⟩ : ∃ T, selB (hdB (prG G) N (fun k => decide (k ∈ l))) N = T := ⟨_, rfl⟩
  rw [hTT] at HFin ⊢
  obtain ⟨w1, hw1⟩ : ∃ w1, w.alloc (.cells (rowC (boolC fun _ => false) N) 4) = w1 := ⟨_, rfl⟩
  rw [hw1] at hmk
  obtain ⟨g, hg⟩ : ∃ g, w.heap.size = g := ⟨_, rfl⟩
  have HO0 := Lib.hid (show OwB w w1 g N (fun _ => false) from ⟨by subst hw1; subst hg; exact Whole.new w 4 _, by subst hw1; exact (Fr.refl (fun _ => False) w).alloc _, by omega⟩)
  rw [hg] at hmk
  clear hG h hR hl hN hL hTT hw1 hg hown
  go_enter Try.func27, Try.ntmps27
  go_upto_region 2 with fail
  clear hmk
  go_wp2
  go_loopg [6] L (fun kx s6 wr => ∃ k : Nat, s6 = .int .i64 k ∧ k ≤ L ∧ L - k ≤ kx ∧ Hid (OwB w wr g N (fun j => decide (j ∈ l.take k))))
  case atStart => exact ⟨0, rfl, by omega, by omega, Lib.hid (by simpa using HO0.out)⟩
  case round =>
    obtain ⟨k, rfl, hk, hkx, HO⟩ := hrel
    obtain ⟨wo, rfl⟩ : ∃ wo, wo = wr := ⟨wr, rfl⟩
    have wk := wrap_nat1 k (by omega)
    by_cases hlt : k < L
    · have hltz : (k : Int) < L := by omega
      obtain ⟨bb, o, hBk, cx⟩ := HLs.out wo HO.out.old k hlt
      subst hBk
      have hx := HX.out k hlt
      have HTk1 := Lib.hid (HTk.out k hlt)
      obtain ⟨x, hxd⟩ : ∃ x, l.getD k 0 = x := ⟨_, rfl⟩
      rw [hxd] at cx hx HTk1
      have cm := HO.out.row.rcell x hx
      have fm := HO.out.row.frozen x
      simp only [boolC] at cm
      obtain ⟨b, hb⟩ : ∃ b, decide (x ∈ l.take k) = b := ⟨_, rfl⟩
      rw [hb] at cm
      have hx0 : (0 : Int) ≤ (x : Int) := by omega
      have hxz : (x : Int) < (N : Int) := by omega
      have HS := Lib.hid (HO.out.set x hx true (fun j => decide (j ∈ l.take (k + 1))) (fun j hj => by
        rw [HTk1.out]
        by_cases e : j = x
        · simp [e]
        · simp [e]))
      clear hxd hb
      go_wp2
      go_roundg (L - (k + 1))
      case measure => omega
      case rel => exact ⟨k + 1, by go_num, by omega, Nat.le_refl _, HS⟩
    · obtain rfl : k = L := by omega
      have HO2 := Lib.hid (show OwB w wo g N (fun j => decide (j ∈ l)) from by have := HO.out; rwa [HTl.out] at this)
      go_wp2_with (go_at_call 19; refine (HLi.out _ g _ HO2.out.row).mono ?_; rintro e w2 ⟨v, rfl, ho⟩
                   rw [HOwn.out] at ho
                   obtain ⟨Av, cv, hv, _, _, _, hli⟩ := ho.shape
                   subst hv
                   have HOv := Lib.hid ho
                   have HLv := Lib.hid hli
                   clear ho hli)
      have HO3 := Lib.hid (show OwB w w2 g N (fun j => decide (j ∈ l) && !((own.take 0).any fun d => decide (j < d) && upB (prG G) N [d] j)) from by
        have := HO2.out.fr HOv.out.2
        simpa using this)
      have HTo := Lib.hid (nat_snoc own)
      have HTa := Lib.hid (List.take_length (l := own))
      have HMo : Hid (∀ k, k < own.length → own.getD k 0 < N) := Lib.hid (fun k hk => ((HM.out _).1 (by rw [List.getD_eq_getElem?_getD, List.getElem?_eq_getElem hk]; exact List.getElem_mem hk)).1)
      have HLo := Lib.hid (fun w' (f : Fr (fun k => k = g) w2 w') k hk => lies_nat (HLv.out.fr f (fun ad e => by have := HOv.out.addr ad e; have := HO2.out.row.lt; omega)) (Fr.refl (fun _ => False) w') k hk)
      have hol := HSl.out
      obtain ⟨K, hK⟩ : ∃ K, own.length = K := ⟨_, rfl⟩
      rw [hK] at HTo HTa HMo HLo hol ⊢
      clear hK HLv HO2 HOv
      go_loopg [8] K (fun kx s8 wr => ∃ k : Nat, s8 = .int .i64 k ∧ k ≤ K ∧ K - k ≤ kx ∧ Hid (OwB w wr g N (fun j => decide (j ∈ l) && !((own.take k).any fun d => decide (j < d) && upB (prG G) N [d] j))) ∧ Hid (Fr (fun k => k = g) w2 wr))
      case atStart => exact ⟨0, rfl, by omega, by omega, HO3, Lib.hid (Fr.refl _ _)⟩
      case round =>
        obtain ⟨k, rfl, hk, hkx, HO, HFr⟩ := hrel
        obtain ⟨wo, rfl⟩ : ∃ wo, wo = wr := ⟨wr, rfl⟩
        have wk := wrap_nat1 k (by omega)
        by_cases hlt : k < K
        · have hltz : (k : Int) < K := by omega
          obtain ⟨bb, o, hBk, cx⟩ := HLo.out wo HFr.out k hlt
          subst hBk
          have hx := HMo.out k hlt
          have HLj := Lib.hid (fun (w' : World) (f : Fr (fun k => k = g) w2 w') => HLo.out w' f k hlt)
          have HTk1 := Lib.hid (HTo.out k hlt)
          obtain ⟨x, hxd⟩ : ∃ x, own.getD k 0 = x := ⟨_, rfl⟩
          rw [hxd] at cx hx HTk1 HLj
          obtain ⟨F, hF⟩ : ∃ F : Nat → Bool, (fun j => decide (j ∈ l) && !((own.take k).any fun d => decide (j < d) && upB (prG G) N [d] j)) = F := ⟨_, rfl⟩
          have HF := Lib.hid hF
          rw [hF] at HO
          obtain ⟨wa, hwa⟩ : ∃ wa, wo.alloc (.cells #[.int .i64 (x : Nat)] 3) = wa := ⟨_, rfl⟩
          have HFa := Lib.hid (show Fr (fun _ => False) wo wa from by subst hwa; exact (Fr.refl (fun _ => False) wo).alloc _)
          have HLa := Lib.hid (show Lies wa (some ⟨wo.heap.size, 0, none⟩) (nC [x]) from by subst hwa; exact Lies.of_whole (Whole.new wo 3 _))
          have HCall := Lib.hid (HUp.out x hx wa wo.heap.size (HO.out.old.trans HFa.out (fun _ _ e => e)) HLa.out)
          obtain ⟨u, hu'⟩ : ∃ u, upB (prG G) N [x] = u := ⟨_, rfl⟩
          have HU := Lib.hid hu'
          rw [hu'] at HCall
          clear hxd hF hu'
          go_wp2_with (go_at_call 20; refine HCall.out.mono ?_; rintro e w4 ⟨gu, rfl, hu4⟩
                       have HUr := Lib.hid hu4.row
                       have HF4 := Lib.hid (HFa.out.trans hu4.old (fun _ _ e => e))
                       have HGu := Lib.hid (show gu ≠ g from by have h1 := hu4.new; have h2 := HO.out.row.lt; have h3 := HFa.out.size; omega)
                       clear hu4)
          have HO4 := Lib.hid (HO.out.fr HF4.out)
          have HFz := Lib.hid (HFr.out.trans HF4.out (fun _ _ e => e.elim))
          clear HO HCall HFa HLa HF4 HFr cx
          go_loopg [10] x (fun kx s10 wr => ∃ j : Nat, s10 = .int .i64 j ∧ j ≤ x ∧ x - j ≤ kx ∧ Hid (OwB w wr g N (fun i => if i < j then F i && !u i else F i)) ∧ Hid (Whole wr gu 4 (rowC (boolC u) N)) ∧ Hid (Fr (fun k => k = g) w2 wr))
          case atStart => exact ⟨0, rfl, by omega, by omega, Lib.hid (by simpa using HO4.out), HUr, HFz⟩
          case round =>
            obtain ⟨j, rfl, hj, hjx, HOj, HUj, HFj⟩ := hrel
            obtain ⟨wi, rfl⟩ : ∃ wi, wi = wr := ⟨wr, rfl⟩
            have wj1 := wrap_nat1 j (by omega)
            obtain ⟨b3, o3, hB3, cx⟩ := HLj.out wi HFj.out
            injection hB3 with hB3
            injection hB3 with e1 e2
            subst e1; subst e2
            by_cases hjl : j < x
            · have hjz : (j : Int) < (x : Int) := by omega
              have hj0 : (0 : Int) ≤ (j : Int) := by omega
              have hjN : (j : Int) < (N : Int) := by omega
              have cm := HOj.out.row.rcell j (by omega)
              have fm := HOj.out.row.frozen j
              have cu := HUj.out.rcell j (by omega)
              simp only [boolC, Nat.lt_irrefl, if_false] at cm cu
              have HS := Lib.hid (fun b (hb : (F j && !u j) = b) => HOj.out.set j (by omega) b (fun i => if i < j + 1 then F i && !u i else F i) (fun i hi => by
                by_cases e : i = j
                · subst e; rw [if_pos rfl, if_pos (by omega), hb]
                · rw [if_neg e]
                  by_cases e2 : i < j
                  · rw [if_pos e2, if_pos (by omega)]
                  · rw [if_neg e2, if_neg (by omega)]))
              have HUs := Lib.hid (fun v => HUj.out.fr ((Fr.refl (fun k => k = g) wi).setCell (p := ⟨g, j, none⟩) (fun _ => rfl) v) HGu.out)
              have HFs := Lib.hid (fun v => HFj.out.setCell (p := ⟨g, j, none⟩) (fun _ => rfl) v)
              obtain ⟨b1, hb1⟩ : ∃ b, F j = b := ⟨_, rfl⟩
              obtain ⟨b2, hb2⟩ : ∃ b, u j = b := ⟨_, rfl⟩
              have HSb := Lib.hid (HS.out (b1 && !b2) (by rw [hb1, hb2]))
              rw [hb1] at cm
              rw [hb2] at cu
              clear hb1 hb2 HS
              cases b1
              · go_wp2
                go_roundg (x - (j + 1))
                case measure => omega
                case rel => exact ⟨j + 1, by go_num, by omega, Nat.le_refl _, HSb, Lib.hid (HUs.out _), Lib.hid (HFs.out _)⟩
              · go_wp2
                go_roundg (x - (j + 1))
                case measure => omega
                case rel => exact ⟨j + 1, by go_num, by omega, Nat.le_refl _, HSb, Lib.hid (HUs.out _), Lib.hid (HFs.out _)⟩
            · obtain rfl : j = x := by omega
              have HOn := Lib.hid (show OwB w wi g N (fun i => decide (i ∈ l) && !((own.take (k + 1)).any fun d => decide (i < d) && upB (prG G) N [d] i)) from by
                have := HOj.out
                have e : (fun i => if i < j then F i && !u i else F i) = (fun i => decide (i ∈ l) && !((own.take (k + 1)).any fun d => decide (i < d) && upB (prG G) N [d] i)) := by
                  funext i
                  rw [HTk1.out, List.any_append, List.any_cons, List.any_nil, Bool.or_false, HU.out, ← HF.out]
                  by_cases e : i < j
                  · simp only [e, if_true, decide_true, Bool.true_and, Bool.not_or, Bool.and_assoc]
                  · simp [e]
                rwa [e] at this)
              go_wp2
              go_roundg (K - (k + 1))
              case measure => omega
              case rel => exact ⟨k + 1, by go_num, by omega, Nat.le_refl _, HOn, HFj⟩
        · obtain rfl : k = K := by omega
          have HE := Lib.hid (HFin.out _ (fun i => rfl))
          rw [HTa.out] at HO
          go_wp2_with (go_at_call 19; refine (HLi.out _ g _ HO.out.row).mono ?_; rintro e w5 ⟨v, rfl, ho⟩; rw [HE.out] at ho; have HOv := Lib.hid ho; clear ho)
          go_ret
          exact ⟨v, rfl, HOv.out.base HO.out.old⟩
end Go.Proofs.Ytfpolfcmfdmifaa

/- What is proved: a filter made, by the program. Conditions: the list's cells are there; at most a hundred thousand keys. -/
import Derived.Test.YtgmohgofcjemkaaDoorNt
import Derived.Deep.DrawnRows
namespace Go.Proofs.YtgmohgofcjemkaaDoor
open Go.RowKit Go.Sort Go.Shelf Go.Maps
set_option linter.unusedVariables false

theorem whole_ownU {w : World} {base : Nat} {e : TypeId} {s n g : Nat} {xs : List Value} (h : Whole w g e xs.toArray) (hl : xs.length = n * s) (hb : base ≤ g) (hn : n ≤ maxLen) : w.ownsRow base e s (.slice (some ⟨g, 0, none⟩) n n) n xs :=
  ⟨hl, .inr ⟨g, n, xs.toArray, rfl, hb, h, Nat.le_refl _, hn, by simpa using hl, by simp [← hl]⟩⟩
theorem own_wholeU {w : World} {base : Nat} {e : TypeId} {s n g : Nat} {xs : List Value} (h : w.ownsRow base e s (.slice (some ⟨g, 0, none⟩) n n) n xs) : Whole w g e xs.toArray ∧ base ≤ g := by
  rcases h.2 with ⟨hv, _⟩ | ⟨g', cap, cur, hv, hb, hg, hn, hc, hsz, htk⟩
  · cases hv
  · cases hv
    have : cur = xs.toArray := by
      apply Array.toList_inj.1
      rw [← htk, List.take_of_length_le (by rw [Array.length_toList, hsz]; exact Nat.le_refl _)]
    subst this
    exact ⟨hg, hb⟩

set_option maxHeartbeats 6400000 in
set_option maxRecDepth 100000 in
theorem Make_any (A : Option Addr) (c : Nat) (keys : List (List UInt8)) (hn : keys.length ≤ 100000) (hk : ∀ p ∈ keys, p.length ≤ 4611686018427387904) (w : World) (hA : Lies w A (strM keys)) :
    Calls Tryd.prog 9 #[.slice A keys.length c] w fun e w' => ∃ v, e = .returned v ∧ OwnB w w' v (mkF keys) := by
  obtain ⟨i0, hi, hz0, hz1, hz2⟩ := info_parts info_u8
  have hmm := @run_makeMap Tryd.prog
  have hul := unl_len keys
  have HA := Lib.hid hA
  have HK := Lib.hid (fun k (h : k < keys.length) => hk (keys.getD k []) (by rw [List.getD_eq_getElem?_getD, List.getElem?_eq_getElem h]; exact List.getElem_mem h))
  have HLs := Lib.hid (fun (h : 0 < keys.length) => lies_nameM hA (Fr.refl _ w) h)
  have HTk := Lib.hid (fun k h => txt_snoc keys k h)
  have HT0 : Hid (keys.take 0 = []) := Lib.hid rfl
  have HTn : Hid (keys.take keys.length = keys) := Lib.hid (List.take_length)
  obtain ⟨N, hN⟩ : ∃ N, keys.length = N := ⟨_, rfl⟩
  have HN := Lib.hid hN
  rw [hN] at hn hul HK HLs HTk HTn ⊢
  have HS0 := Lib.hid (SetAt.made w)
  have HF0 := Lib.hid (show Fr (fun _ => False) w (w.alloc (.map #[] 0)) from (Fr.refl _ w).alloc _)
  have HSz := Lib.hid (show (w.alloc (.map #[] 0)).heap.size = w.heap.size + 1 from World.size_alloc _ _)
  clear hA hk hN
  refine (callsIn_wide (n := 9)).1 (callsIn_of_wp_marks Tryd.func9 rfl trivial ?_ rfl)
  simp only [Tryd.ntmps9, List.size_toArray, List.length_cons, List.length_nil, Nat.reduceAdd, Nat.reduceSub, Array.replicate_succ, Array.replicate_zero, List.push_toArray, List.append_toArray, List.nil_append, List.cons_append]
  refine wpIn_wide.2 ?_
  go_wp2
  go_loopg [13] N (fun kx s13 wr => ∃ k : Nat, s13 = .int .i64 k ∧ k ≤ N ∧ N - k ≤ kx ∧ Hid (SetAt wr w.heap.size (keys.take k)) ∧ Hid (Fr (fun _ => False) w wr))
  case atStart => exact ⟨0, rfl, by omega, by omega, by rw [HT0.out]; exact HS0, HF0⟩
  case round =>
    obtain ⟨k, rfl, hk, hkx, HSt, HFr⟩ := hrel
    obtain ⟨wo, rfl⟩ : ∃ wo, wo = wr := ⟨wr, rfl⟩
    by_cases hlt : k < N
    · have hltz : (k : Int) < N := by omega
      have hk0 : (0 : Int) ≤ (k : Int) := by omega
      have wk := wrap_nat1 k (by omega)
      obtain ⟨b, o, hA, hc⟩ := HLs.out (by omega)
      subst hA
      have cx := HFr.out.cell (hc k hlt) (fun e => e)
      have HPu := Lib.hid (fun x (hx : x.length ≤ maxLen) => Put_any w.heap.size (keys.take k) (by rw [List.length_take]; omega) x hx wo HSt.out)
      have HPx := Lib.hid (HPu.out (keys.getD k []) (by have := HK.out k hlt; unfold maxLen; omega))
      rw [← HTk.out k hlt] at HPx
      obtain ⟨S, hS⟩ : ∃ S, strB (keys.getD k []) = S := ⟨_, rfl⟩
      rw [hS] at cx HPx
      clear hS hc
      go_wp2_with (go_at_call 16; refine HPx.out.mono ?_; rintro e w2 ⟨rfl, hs2, hf2⟩; have HS2 := Lib.hid hs2; have HF2 := Lib.hid (show Fr (fun _ => False) w w2 from HFr.out.trans hf2 (fun i hi e => by omega)); clear hs2 hf2)
      go_roundg (N - (k + 1))
      case measure => omega
      case rel => exact ⟨k + 1, by go_num, by omega, Nat.le_refl _, HS2, HF2⟩
    · obtain rfl : k = N := by omega
      rw [HTn.out] at HSt
      obtain ⟨dn, D, hown, hsz⟩ := HSt.out.len
      obtain ⟨m, hm⟩ : ∃ m, (unl keys).length = m := ⟨_, rfl⟩
      have HM := Lib.hid hm
      rw [hm] at hsz hul
      clear hm
      by_cases h200 : 200 < m
      · have hz3 : (m : Int) > 200 := by omega
        have HV : Hid (mkF keys = [255]) := Lib.hid (by unfold mkF; rw [if_pos (by rw [HM.out]; exact h200)])
        go_wp2_with (at_len; refine wpList_len_own _ rfl _ 35 rfl 9 50 Tryd.underlying35 _ w.heap.size dn D rfl hown ?_; rw [hsz])
        refine ⟨_, results_tmp rfl _ _ _, _, rfl, ?_, HFr.out.alloc _⟩
        rw [HV.out]
        exact whole_ownU (xs := bytesV [255]) (Whole.new wo 5 #[.int .u8 255]) rfl HFr.out.size (by decide)
      · have hz3 : ¬ (m : Int) > 200 := by omega
        obtain ⟨M, hM⟩ : ∃ M, szK m = M := ⟨_, rfl⟩
        have hM1 : 1 ≤ M ∧ M ≤ 251 ∧ max 1 (((m : Int) * 10 + 7) / 8) = (M : Int) := by
          rw [← hM]; unfold szK; split <;> omega
        obtain ⟨hM1, hM2, hmx⟩ := hM1
        have HMz := Lib.hid hM
        have HRi := Lib.hid (fun w' (h : SetAt w' w.heap.size keys) => Rising_any w.heap.size keys (by rw [HN.out]; omega) w' h)
        clear hM
        go_wp2_with (first
          | (at_len; refine wpList_len_own _ rfl _ 35 rfl 9 50 Tryd.underlying35 _ w.heap.size dn D rfl hown ?_; rw [hsz])
          | (at_make; refine wpList_make_full _ rfl _ _ 27 rfl wo.heap.size 5 i0 (.int .u8 0) 1 Tryd.underlying27 hi hz0 hz1 .i64 .i64 _ _ M rfl rfl rfl rfl (by rw [hz2]; omega) (by unfold maxLen; omega) (Nat.le_refl _) ?_
             intro w2 o2 g2
             have HO2 := Lib.hid o2
             have HG2 := Lib.hid g2
             clear o2 g2 hmx))
        obtain ⟨w3, hw3⟩ : ∃ w3, w2.alloc (.cells #[.slice (some ⟨wo.heap.size, 0, none⟩) M M] 27) = w3 := ⟨_, rfl⟩
        rw [hw3]
        have HF3 := Lib.hid (show Fr (fun _ => False) wo w3 from by subst hw3; exact ((Fr.refl _ wo).grown HG2.out (fun k hk => by cases hk)).alloc _)
        have HK3 := Lib.hid (show MkS w w3 wo.heap.size w2.heap.size none [] M (List.replicate M 0) [] from by
          subst hw3
          have f2 : Fr (fun _ => False) wo w2 := (Fr.refl _ wo).grown HG2.out (fun k hk => by cases hk)
          have e : (madeCells (Value.int IntKind.u8 0).cells (M * 1)).toList = bytesV (List.replicate M 0) := by
            rw [Nat.mul_one]
            show (madeCells #[.int .u8 0] M).toList = _
            rw [toList_madeCells_one]
            simp [bytesV, byteV]
          have h2 := own_wholeU HO2.out
          rw [e] at h2
          exact ⟨(HFr.out.trans f2 (fun _ _ e => e)).alloc _, h2.1.fr ((Fr.refl (fun _ => False) _).alloc _) (fun e => e), Whole.new w2 27 _, .inl rfl, List.nodup_nil, fun r hr => by simp at hr, Nat.le_trans HFr.out.size h2.2, by simp⟩)
        have hri := HRi.out w3 (HSt.out.fr HF3.out (fun e => e))
        obtain ⟨gF, hgF⟩ : ∃ g, wo.heap.size = g := ⟨_, rfl⟩
        obtain ⟨bf, hbf⟩ : ∃ g, w2.heap.size = g := ⟨_, rfl⟩
        rw [hgF, hbf] at HK3
        rw [hgF, hbf]
        have HKL : Hid (∀ p ∈ unl keys, p.length ≤ 4611686018427387904) := Lib.hid (fun p hp => by
          have := ((unl_ris keys).2 p).1 hp
          obtain ⟨k9, hk9, e9⟩ := List.getElem_of_mem this
          have h9 := HK.out k9 (by rw [← HN.out]; exact hk9)
          rw [List.getD_eq_getElem?_getD, List.getElem?_eq_getElem hk9, Option.getD_some, e9] at h9
          exact h9)
        have HMk : Hid (mkF keys = fltB (stK (unl keys) (8 * M)) M) := Lib.hid (by unfold mkF; rw [if_neg (by rw [HM.out]; omega), HM.out, HMz.out])
        clear hw3 hgF hbf HO2 HG2 HRi HSt HF3 hsz hown
        go_wp2_with (go_at_call 17; refine hri.mono ?_; rintro e w4 ⟨v4, rfl, ho4⟩
                     obtain ⟨A1, c1, hv4, hrow4⟩ := ho4.row
                     rw [HM.out] at hv4
                     subst hv4
                     have HF4 := Lib.hid ho4.2
                     have HR4 := Lib.hid hrow4
                     clear hri ho4 hrow4)
        have HK4 := Lib.hid (show MkS w w4 gF bf A1 (unl keys) M (List.replicate M 0) [] from by
          have h := HK3.out.keep0 HF4.out
          exact ⟨h.fr, h.wf, h.wb, HR4.out, h.nd, h.mr, h.lo, h.ln⟩)
        have HB0 := Lib.hid (fun j => show bitB (List.replicate M 0) j = stK ((unl keys).take 0) (8 * M) j from by rw [zero_bit]; rfl)
        have HTl : Hid ((unl keys).take m = unl keys) := Lib.hid (by rw [← HM.out, List.take_length])
        obtain ⟨L, hL⟩ : ∃ L, unl keys = L := ⟨_, rfl⟩
        rw [hL] at HM HKL HMk HK4 HB0 HTl
        clear hL HK3 HF4 HR4 HFr
        refine wp_loop_ghost_k (fun kx a' wr => ∃ (ds : List Deferred) (u0 u1 u2 u3 u4 u5 u6 u7 u8 u9 u10 u11 u12 u13 u14 u15 u16 u17 u18 u19 u20 u21 u22 u23 u24 u25 u26 u27 u28 u29 u30 u31 u32 u33 u34 u35 u36 u37 u38 u39 u40 u41 u42 u43 u44 u45 u46 u47 u48 u49 u50 u51 u52 u53 u54 : Value), (∃ (i : Nat) (fl : List UInt8) (rs : List Nat), u6 = .pointer (some ⟨bf, 0, none⟩) ∧ u33 = .slice A1 m c1 ∧ u34 = .int .i64 m ∧ u35 = .int .i64 i ∧ ds = rs.map mkD ∧ i ≤ m ∧ m - i ≤ kx ∧ Hid (MkS w wr gF bf A1 L M fl rs) ∧ Hid (∀ j, j < 8 * M → bitB fl j = stK (L.take i) (8 * M) j)) ∧ a' = { tmps := #[u0, u1, u2, u3, u4, u5, u6, u7, u8, u9, u10, u11, u12, u13, u14, u15, u16, u17, u18, u19, u20, u21, u22, u23, u24, u25, u26, u27, u28, u29, u30, u31, u32, u33, u34, u35, u36, u37, u38, u39, u40, u41, u42, u43, u44, u45, u46, u47, u48, u49, u50, u51, u52, u53, u54], defers := ds }) m ?_ ?_
        · exact ⟨[], _, _, _, _, _, _, _, _, _, _, _, _, _, _, _, _, _, _, _, _, _, _, _, _, _, _, _, _, _, _, _, _, _, _, _, _, _, _, _, _, _, _, _, _, _, _, _, _, _, _, _, _, _, _, _, ⟨0, _, [], rfl, rfl, rfl, rfl, rfl, by omega, by omega, HK4, Lib.hid (fun j _ => HB0.out j)⟩, rfl⟩
        · intro gk2 _ wr hinv
          obtain ⟨ds, u0, u1, u2, u3, u4, u5, u6, u7, u8, u9, u10, u11, u12, u13, u14, u15, u16, u17, u18, u19, u20, u21, u22, u23, u24, u25, u26, u27, u28, u29, u30, u31, u32, u33, u34, u35, u36, u37, u38, u39, u40, u41, u42, u43, u44, u45, u46, u47, u48, u49, u50, u51, u52, u53, u54, hrel, ha⟩ := hinv
          subst ha
          intro _ _ _ _
          obtain ⟨i, fl, rs, rfl, rfl, rfl, rfl, hds, him, hix, HK, HB⟩ := hrel
          obtain ⟨wo, rfl⟩ : ∃ wo, wo = wr := ⟨wr, rfl⟩
          have HDs := Lib.hid hds
          clear hds
          by_cases hlt : i < m
          · have hltz : (i : Int) < (m : Int) := by omega
            have hi0 : (0 : Int) ≤ (i : Int) := by omega
            have wi := wrap_nat1 i (by omega)
            obtain ⟨b, cur, hA1, hb, hcur⟩ : ∃ b cur, A1 = some ⟨b, 0, none⟩ ∧ Whole wo b 9 cur ∧ ∀ j, j < L.length → cur[j]? = some (.string (strB (L.getD j []))) := by
              rcases HK.out.row with h | h
              · have := HM.out; rw [h] at this; simp at this; omega
              · exact h
            have hcx : wo.cell? ⟨b, i, none⟩ = some (.string (strB (L.getD i []))) := by rw [hb.cell]; exact hcur i (by rw [HM.out]; exact hlt)
            subst hA1
            have cb := HK.out.wb.cell 0
            have hkl := HKL.out (L.getD i []) (by rw [List.getD_eq_getElem?_getD, List.getElem?_eq_getElem (by rw [HM.out]; exact hlt)]; exact List.getElem_mem _)
            have HTs := Lib.hid (txt_snoc L i (by rw [HM.out]; exact hlt))
            obtain ⟨key, hkey⟩ : ∃ key, L.getD i [] = key := ⟨_, rfl⟩
            rw [hkey] at hcx hkl HTs
            have HSq := Lib.hid (fun bk bg (l : Nat) (W : World) J Jx h1 h2 h3 => Places1_any l bk bg (some ⟨gF, 0, none⟩) M M key hkl (by omega) (by omega) W J Jx h1 h2 h3)
            have HG : Hid (∀ k, k < 7 → (plL key (8 * M)).getD k 0 = plI (hsA key) (hsB key) (8 * M) k ∧ plI (hsA key) (hsB key) (8 * M) k < 8 * M) := Lib.hid (fun k hk => by
              unfold plL
              rw [plT_get _ _ _ _ _ hk]
              exact ⟨rfl, (plI_nat _ _ _ _ (by omega)).2⟩)
            have HLn : Hid ((plL key (8 * M)).length = 7) := Lib.hid (by unfold plL; exact plT_len _ _ _ _)
            have HNx : Hid (∀ j, stK (L.take (i + 1)) (8 * M) j = (stK (L.take i) (8 * M) j || decide (j ∈ plL key (8 * M)))) := Lib.hid (fun j => by rw [HTs.out, stK_snoc])
            obtain ⟨P, hP⟩ : ∃ P, plL key (8 * M) = P := ⟨_, rfl⟩
            rw [hP] at HG HLn HNx
            obtain ⟨pl, hpl⟩ : ∃ pl, plI (hsA key) (hsB key) (8 * M) = pl := ⟨_, rfl⟩
            rw [hpl] at HG HSq
            obtain ⟨S, hS⟩ : ∃ S, strB key = S := ⟨_, rfl⟩
            rw [hS] at HSq hcx
            clear hS hpl hP hkey hkl hcur hb HTs
            go_wp2_with (go_at_call 19; refine (Places_any (some ⟨gF, 0, none⟩) M M S _).mono ?_; rintro e w1 ⟨rfl, hw1⟩)
            rw [← hw1]
            have HI0 := Lib.hid (show MkS w w1 gF bf (some ⟨b, 0, none⟩) L M fl rs ∧ Whole w1 wo.heap.size 27 #[.slice (some ⟨gF, 0, none⟩) M M] ∧ Whole w1 (wo.heap.size + 1) 9 #[.string S] from by
              subst hw1
              have f1 : Fr (fun _ => False) wo (wo.alloc (.cells #[.slice (some ⟨gF, 0, none⟩) M M] 27)) := (Fr.refl _ wo).alloc _
              have a1 := Whole.new wo 27 #[.slice (some ⟨gF, 0, none⟩) M M]
              have a2 := Whole.new (wo.alloc (.cells #[.slice (some ⟨gF, 0, none⟩) M M] 27)) 9 #[.string S]
              rw [World.size_alloc] at a2
              exact ⟨HK.out.keep0 (f1.alloc _), a1.fr ((Fr.refl (fun _ => False) _).alloc _) (fun e => e), a2⟩)
            have HS1 := Lib.hid (show w.heap.size ≤ w1.heap.size from HI0.out.1.fr.size)
            obtain ⟨bg, hbg⟩ : ∃ g, wo.heap.size = g := ⟨_, rfl⟩
            rw [hbg] at HI0
            simp only [hbg]
            clear hw1 hbg hcx cb
            refine (wpIn_wide (n := 9)).1 ?_
            refine range_leave (gf := 32) (lb := #[.pointer (some ⟨bg + 1, 0, none⟩), .pointer (some ⟨bg, 0, none⟩)]) rfl (enters_of Tryd.func32 (by kernel_rfl) rfl) 7 (fun k => #[.int .u64 (pl k : Nat)]) (fun _ => rfl) (PlRd (bg + 1) bg (some ⟨gF, 0, none⟩) M M S) ?seq
              (fun k W => ∃ f2, MkS w W gF bf (some ⟨b, 0, none⟩) L M f2 rs ∧ Whole W bg 27 #[.slice (some ⟨gF, 0, none⟩) M M] ∧ Whole W (bg + 1) 9 #[.string S] ∧ ∀ j, j < 8 * M → bitB f2 j = (stK (L.take i) (8 * M) j || decide (j ∈ P.take k)))
              (fun _ _ => False) ?fr ?frx ?rd ?zero ?round ?done ?stop
            case seq =>
              intro l9 W J Jx hj0 hjr hjy
              exact HSq.out _ _ l9 W J Jx hj0 hjr hjy
            case fr =>
              rintro k W W' ⟨f2, hm9, hg9, hk9, hb9⟩ q hl
              have h1 := HS1.out
              exact ⟨f2, hm9.keep q (fun i hi e => by omega) (fun b t cs hb e => hb.notLoop hl e) (fun r hr e => by subst e; obtain ⟨o, ho⟩ := hl; rw [hr] at ho; cases ho), hg9.fr q (fun e => hg9.notLoop hl e), hk9.fr q (fun e => hk9.notLoop hl e), hb9⟩
            case frx => exact fun _ _ _ h _ _ => h
            case rd =>
              rintro k W ⟨f2, hm9, hg9, hk9, hb9⟩
              exact ⟨hk9.cell 0, hg9.cell 0⟩
            case zero =>
              intro W q
              exact ⟨fl, HI0.out.1.keep0 q, HI0.out.2.1.fr q (fun e => e), HI0.out.2.2.fr q (fun e => e), fun j hj => by rw [HB.out j hj]; simp⟩
            case round =>
              intro l9 k Wk hik hkP Kk hKk
              have HKk := Lib.hid hKk
              clear hKk hik
              refine wpIn_region_lit ?_
              refine wpListIn_of_wpList (fun ⟨_, _, h⟩ => h) _ (by intro o ho c; simp only [List.mem_cons, List.not_mem_nil, or_false] at ho; rcases ho with rfl; simp) _ _ ?_
              go_wp2
              refine HKk.out _ (fun Wb hib hlb hdb => ?_)
              clear HKk
              obtain ⟨f2, hm9, hg9, hk9, hb9⟩ := hib
              have HM9 := Lib.hid hm9
              have HG9 := Lib.hid hg9
              have HK9 := Lib.hid hk9
              have HLb := Lib.hid hlb
              have HDb := Lib.hid hdb
              have cf := hm9.wb.cell 0
              have hpk := (HG.out k hkP).2
              have HBn := Lib.hid (fun f3 (h : ∀ j, bitB f3 j = (bitB f2 j || decide (j = pl k))) j (hj : j < 8 * M) => show bitB f3 j = (stK (L.take i) (8 * M) j || decide (j ∈ P.take (k + 1))) from by
                have e : decide (j ∈ P.take (k + 1)) = (decide (j ∈ P.take k) || decide (j = pl k)) := by
                  rw [Bool.eq_iff_iff, Bool.or_eq_true, decide_eq_true_eq, decide_eq_true_eq, decide_eq_true_eq, mem_snocN (by rw [HLn.out]; exact hkP), (HG.out k hkP).1]
                rw [h j, hb9 j hj, e, Bool.or_assoc])
              have cx : Wb.cell? ⟨gF, pl k / 8, none⟩ = some (.int .u8 ((f2.getD (pl k / 8) 0).toNat : Nat)) := by
                rw [hm9.wf.cell]
                have hl8 : pl k / 8 < f2.length := by rw [hm9.ln]; omega
                simp [bytesV, byteV, hl8]
              have fx := hm9.wf.frozenN (pl k / 8)
              have hb2 := getD_lt256 f2 (pl k / 8)
              have HSt := Lib.hid (fun y hy => hm9.bit (pl k) hpk y hy)
              have HSb := Lib.hid (fun j => setB_bit f2 (pl k) j (by rw [hm9.ln]; exact hpk))
              obtain ⟨p, hp⟩ : ∃ p, pl k = p := ⟨_, rfl⟩
              rw [hp] at hpk cx fx hb2 HSt HSb HBn ⊢
              obtain ⟨q, hq⟩ : ∃ q, p / 8 = q := ⟨_, rfl⟩
              obtain ⟨r, hr⟩ : ∃ r, p % 8 = r := ⟨_, rfl⟩
              obtain ⟨x, hx⟩ : ∃ x, (f2.getD q 0).toNat = x := ⟨_, rfl⟩
              rw [hq, hx] at cx hb2
              rw [hq] at fx
              rw [hq, hr, hx] at HSt
              have hr8 : r < 8 := by omega
              have hqz : (0 : Int) ≤ (q : Int) := by omega
              have hqM : (q : Int) < (M : Int) := by omega
              have e1 : (p : Int).tdiv 8 = (q : Int) := by rw [Int.tdiv_eq_ediv_of_nonneg (by omega)]; omega
              have e2 : (p : Int).tmod 8 = (r : Int) := by rw [Int.tmod_eq_emod_of_nonneg (by omega)]; omega
              have HO := Lib.hid (show bits .or .u8 (x : Int) (2 ^ r % 256) = ((x ||| 2 ^ r : Nat) : Int) from by
                have h8 : (2 : Nat) ^ r < 256 := Nat.pow_lt_pow_right (n := 8) (by omega) hr8
                have e : (2 : Int) ^ r % 256 = ((2 ^ r : Nat) : Int) := by push_cast; rw [Int.emod_eq_of_lt (Int.pow_nonneg (by omega)) (by exact_mod_cast h8)]
                rw [e, u8_or_nat x (2 ^ r) hb2 h8])
              clear hm9 hg9 hk9 hb9 hlb hdb hp hq hr hx
              refine wpIn_block ?_
              refine wpIn_region_lit ?_
              refine wpListIn_of_wpList (fun ⟨_, _, h⟩ => by rcases h.1 with h | h <;> cases h.1) _ (by intro o ho c; simp only [List.mem_cons, List.not_mem_nil, or_false] at ho; rcases ho with rfl | rfl | rfl | rfl | rfl | rfl | rfl | rfl | rfl | rfl | rfl <;> simp) _ _ ?_
              go_wp2
              rw [HO.out]
              have hst : Fr (fun j => j = gF) Wb (Wb.setCell ⟨gF, q, none⟩ (.int .u8 ((x ||| 2 ^ r : Nat) : Int))) := Fr.setCell (S := fun j => j = gF) (p := ⟨gF, q, none⟩) (Fr.refl _ Wb) (fun _ => rfl) _
              refine ⟨.inl ⟨trivial, setB f2 p, HSt.out _ rfl, HG9.out.fr hst (fun e => HG9.out.apartN HM9.out.wf (by decide) e), HK9.out.fr hst (fun e => HK9.out.apartN HM9.out.wf (by decide) e), HBn.out _ HSb.out⟩, hst.mono (fun i _ e => ?_)⟩
              have g1 := HM9.out.wf.notLoop HLb.out
              have g2 := HM9.out.wf.notDef HDb.out
              exact ⟨fun e2 => g2 (by omega), fun e2 => g1 (by omega)⟩
            case done =>
              rintro W ⟨f2, hm9, hg9, hk9, hb9⟩ hd
              have HM9 := Lib.hid hm9
              have HN9 := Lib.hid (show MkS w W gF bf (some ⟨b, 0, none⟩) L M f2 (w1.heap.size :: rs) from
                ⟨hm9.fr, hm9.wf, hm9.wb, hm9.row, List.nodup_cons.2 ⟨fun hr => by have := (Array.getElem?_eq_some_iff.1 (HI0.out.1.mr _ hr).2).1; omega, hm9.nd⟩, fun r hr => by
                  rcases List.mem_cons.1 hr with rfl | hr
                  · exact ⟨HS1.out, hd⟩
                  · exact hm9.mr r hr, hm9.lo, hm9.ln⟩)
              have HB9 := Lib.hid (fun j (hj : j < 8 * M) => show bitB f2 j = stK (L.take (i + 1)) (8 * M) j from by rw [hb9 j hj, HNx.out j, ← HLn.out, List.take_length])
              have HDs2 := Lib.hid (show ({ target := .collected w1.heap.size, args := #[] } : Deferred) :: ds = (w1.heap.size :: rs).map mkD from by rw [HDs.out]; rfl)
              obtain ⟨ds2, hds2⟩ : ∃ d, ({ target := .collected w1.heap.size, args := #[] } : Deferred) :: ds = d := ⟨_, rfl⟩
              rw [hds2] at HDs2 ⊢
              clear hm9 hg9 hk9 hb9 hd hds2
              simp only [Exit.inBlock, Exit.then]
              go_wp2
              go_roundg (m - (i + 1))
              case measure => omega
              case rel => exact ⟨i + 1, f2, w1.heap.size :: rs, rfl, rfl, rfl, by go_num, HDs2.out, by omega, Nat.le_refl _, HN9, HB9⟩
            case stop => exact fun _ _ _ h _ => h.elim
          · obtain rfl : i = m := by omega
            rw [HTl.out] at HB
            have HFl : Hid (fl = mkF keys) := Lib.hid (by
              rw [HMk.out]
              refine bits_ext (by rw [fltB_len]; exact HK.out.ln) (fun j hj => ?_)
              rw [HK.out.ln] at hj
              rw [HB.out j hj, fltB_bit _ _ _ hj])
            have cb := HK.out.wb.cell 0
            go_wp2
            rw [HDs.out]
            refine leaves_marks rs wo HK.out.nd (fun r hr => (HK.out.mr r hr).2) (fun w' f => ?_)
            refine ⟨_, results_tmp rfl _ _ _, _, rfl, ?_, HK.out.fr.trans f (fun j hj e => by have := (HK.out.mr j e).1; omega)⟩
            rw [← HFl.out, HK.out.ln]
            exact whole_ownU (HK.out.wf.fr f (fun e => HK.out.wf.notDef ⟨_, (HK.out.mr gF e).2⟩ rfl)) (by rw [bytesV_length, HK.out.ln]; omega) HK.out.lo (by unfold maxLen; omega)
end Go.Proofs.YtgmohgofcjemkaaDoor

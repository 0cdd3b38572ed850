/- What is proved: a filter made, by the document. Conditions: the list's cells are there; at most two thousand keys. -/
import Derived.Test.YtgmohgofcjemkaaNd
import Derived.Test.YtgmohgofcjemkaaNc
import Derived.Test.YtgmohgofcjemkaaBe
namespace Go.Proofs.Ytgmohgofcjemkaa
open Go.RowKit Go.Sort Go.Shelf
set_option linter.unusedVariables false

theorem OwnB.weakN {w0 w1 w : World} {v : Value} {l : List UInt8} (h : OwnB w1 w v l) (f : Fr (fun _ => False) w0 w1) : OwnB w0 w v l := by
  refine ⟨⟨h.1.1, ?_⟩, f.trans h.2 (fun _ _ e => e)⟩
  rcases h.1.2 with h0 | ⟨g, cap, cur, hv, hb, r⟩
  · exact .inl h0
  · exact .inr ⟨g, cap, cur, hv, Nat.le_trans f.size hb, r⟩
theorem wrap_addN (B j x : Nat) (h : B + j = x) (hx : x ≤ 100000) : wrap64 ((B : Int) + (j : Int)) = (x : Int) := by unfold wrap64; omega
theorem lt_addN {B j x t M : Nat} (h : B + j = x) (hj : 7 - t = j) (hM : B + 8 ≤ M) : x < M := by omega
theorem insN_sub {out : List (List UInt8)} {n x : List UInt8} (h : x ∈ insN out n) : x = n ∨ x ∈ out := by
  unfold insN at h
  split at h
  · exact .inr h
  · rw [List.mem_append, List.mem_cons] at h
    rcases h with h | h | h
    · exact .inr (List.mem_of_mem_take h)
    · exact .inl h
    · exact .inr (List.mem_of_mem_drop h)
theorem unl_sub (l : List (List UInt8)) : ∀ x ∈ unl l, x ∈ l := by
  suffices h : ∀ (l out : List (List UInt8)) (x : List UInt8), x ∈ l.foldl insN out → x ∈ out ∨ x ∈ l by
    intro x hx
    rcases h l [] x hx with h | h
    · simp at h
    · exact h
  intro l
  induction l with
  | nil => intro out x hx; exact .inl hx
  | cons y l ih =>
    intro out x hx
    rcases ih (insN out y) x hx with h | h
    · rcases insN_sub h with h | h
      · exact .inr (by simp [h])
      · exact .inl h
    · exact .inr (by simp [h])
/-- How many bytes a filter has. -/
def szK (n : Nat) : Nat := if n = 0 then 1 else (10 * n + 7) / 8
/-- Which bits keys have. -/
def stK (l : List (List UInt8)) (M j : Nat) : Bool := l.any fun key => decide (j ∈ plL key M)
theorem stK_snoc (l : List (List UInt8)) (key : List UInt8) (M j : Nat) : stK (l ++ [key]) M j = (stK l M j || decide (j ∈ plL key M)) := by
  unfold stK
  rw [List.any_append, List.any_cons, List.any_nil, Bool.or_false]
/-- A byte out of eight bits, from the highest on. -/
def cB (st : Nat → Bool) (base : Nat) : Nat → Nat
  | 0 => 0
  | t + 1 => 2 * cB st base t + (if st (base + (7 - t)) = true then 1 else 0)
theorem cB_lt (st : Nat → Bool) (base : Nat) : ∀ t, cB st base t < 2 ^ t
  | 0 => by simp [cB]
  | t + 1 => by
    have := cB_lt st base t
    rw [cB, Nat.pow_succ]
    split <;> omega
def fltB (st : Nat → Bool) (k : Nat) : List UInt8 := (List.range k).map fun i => UInt8.ofNat (cB st (8 * i) 8)
theorem fltB_succ (st : Nat → Bool) (k : Nat) : fltB st (k + 1) = fltB st k ++ [UInt8.ofNat (cB st (8 * k) 8)] := by
  unfold fltB
  rw [List.range_succ, List.map_append, List.map_cons, List.map_nil]
theorem fltB_len (st : Nat → Bool) (k : Nat) : (fltB st k).length = k := by simp [fltB]
/-- A filter of keys. -/
def mkF (keys : List (List UInt8)) : List UInt8 := if 200 < (unl keys).length then [255] else fltB (stK (unl keys) (8 * szK (unl keys).length)) (szK (unl keys).length)
theorem mem_snocN {l : List Nat} {i j : Nat} (h : i < l.length) : (j ∈ l.take (i + 1)) ↔ j ∈ l.take i ∨ j = l.getD i 0 := by
  rw [List.take_add_one, List.getElem?_eq_getElem h, List.getD_eq_getElem?_getD, List.getElem?_eq_getElem h, List.mem_append]
  simp

set_option maxHeartbeats 6400000 in
set_option maxRecDepth 100000 in
theorem QbMake_any (A : Option Addr) (c : Nat) (keys : List (List UInt8)) (hn : keys.length ≤ 2000) (hk : ∀ p ∈ keys, p.length ≤ 4611686018427387904) (w : World) (hA : Lies w A (strM keys)) :
    Calls Try.prog 11 #[.slice A keys.length c] w fun e w' => ∃ v, e = .returned v ∧ OwnB w w' v (mkF keys) := by
  obtain ⟨i0, hii, hz0, hz1, hz2⟩ := info_parts info_u8
  have HU := Lib.hid (QbUnlike_any A c keys (by omega) w hA)
  have hul := unl_len keys
  have HKl : Hid (∀ x ∈ unl keys, x.length ≤ 4611686018427387904) := Lib.hid (fun x hx => hk x (unl_sub keys x hx))
  have HV : Hid (mkF keys = if 200 < (unl keys).length then [255] else fltB (stK (unl keys) (8 * szK (unl keys).length)) (szK (unl keys).length)) := Lib.hid rfl
  obtain ⟨V, hV⟩ : ∃ V, mkF keys = V := ⟨_, rfl⟩
  rw [hV] at HV ⊢
  obtain ⟨own, hown⟩ : ∃ o, unl keys = o := ⟨_, rfl⟩
  rw [hown] at HU HKl HV hul
  obtain ⟨n, hnn⟩ : ∃ n, own.length = n := ⟨_, rfl⟩
  have HNn := Lib.hid hnn
  rw [hnn] at HV hul
  obtain ⟨L, hL⟩ : ∃ L, keys.length = L := ⟨_, rfl⟩
  rw [hL] at HU hul hn ⊢
  clear hA hV hown hL hk hnn
  by_cases h200 : 200 < n
  · have HE := Lib.hid (show V = [255] from by rw [HV.out, if_pos h200])
    have hz : (200 : Int) < (n : Int) := by omega
    clear HV
    go_enter Try.func11, Try.ntmps11
    go_wp2_with (go_at_call 23; refine HU.out.mono ?_; rintro e w1 ⟨v1, rfl, ho⟩; obtain ⟨A1, c1, hv1, _, _, _, _⟩ := ho.slice; rw [HNn.out] at hv1; subst hv1; have HF1 := Lib.hid ho.2; clear ho)
    go_ret
    refine ⟨_, rfl, ?_⟩
    rw [HE.out]
    exact ⟨⟨rfl, .inr ⟨w1.heap.size, 1, #[.int .u8 255], rfl, HF1.out.size, heap_alloc_new w1 _, Nat.le_refl _, by unfold maxLen; omega, rfl, rfl⟩⟩, HF1.out.alloc _⟩
  · have hzn : ¬ (200 : Int) < (n : Int) := by omega
    obtain ⟨sz, hsz⟩ : ∃ sz, szK n = sz := ⟨_, rfl⟩
    have hs1 : 1 ≤ sz := by rw [← hsz]; unfold szK; split <;> omega
    have hs2 : sz ≤ 251 := by rw [← hsz]; unfold szK; split <;> omega
    have HSa := Lib.hid (show ∀ s, 1 ≤ s → s < sz → 8 * s < 10 * n from fun s h1 h2 => by rw [← hsz] at h2; unfold szK at h2; split at h2 <;> omega)
    have HSb := Lib.hid (show ¬ 8 * sz < 10 * n from by rw [← hsz]; unfold szK; split <;> omega)
    rw [if_neg h200, hsz] at HV
    have HKp := Lib.hid (fun k (hk : k < n) (w' : World) => QbPlaces_any (own.getD k []) (8 * sz) (HKl.out _ (by rw [List.getD_eq_getElem?_getD, List.getElem?_eq_getElem (by rw [HNn.out]; exact hk)]; exact List.getElem_mem _)) (by omega) (by omega) w')
    have HPl := Lib.hid (fun key => show (plL key (8 * sz)).length = 7 from by unfold plL; exact plT_len _ _ _ _)
    have HPb := Lib.hid (fun key i (hi : i < 7) => show (plL key (8 * sz)).getD i 0 < 8 * sz from by unfold plL; rw [plT_get _ _ _ _ _ hi]; exact (plI_nat _ _ _ _ (by omega)).2)
    have HMk := Lib.hid (fun w => make_bools (8 * sz) (by omega) w)
    have HSn := Lib.hid (fun k (hk : k < n) j => show stK (own.take (k + 1)) (8 * sz) j = (stK (own.take k) (8 * sz) j || decide (j ∈ plL (own.getD k []) (8 * sz))) from by rw [txt_snoc own k (by rw [HNn.out]; exact hk), stK_snoc])
    have HTa := Lib.hid (show own.take n = own from by rw [← HNn.out]; exact List.take_length)
    have HS0 := Lib.hid (show stK (own.take 0) (8 * sz) = fun _ => false from by funext j; simp [stK])
    obtain ⟨M, hM⟩ : ∃ M, 8 * sz = M := ⟨_, rfl⟩
    have HMe := Lib.hid hM
    rw [hM] at HV HKp HPl HPb HMk HSn HS0
    clear hsz h200 hM HKl
    go_enter Try.func11, Try.ntmps11
    go_wp2_with (go_at_call 23; refine HU.out.mono ?_; rintro e w1 ⟨v1, rfl, ho⟩; obtain ⟨A1, c1, hv1, _, _, _, hl1⟩ := ho.slice; rw [HNn.out] at hv1; subst hv1; have HF1 := Lib.hid ho.2; have HL1 := Lib.hid hl1; clear ho hl1)
    go_loopg [4] sz (fun kx s4 wr => ∃ s : Nat, s4 = .int .i64 s ∧ 1 ≤ s ∧ s ≤ sz ∧ sz - s ≤ kx ∧ w1 = wr)
    case atStart => exact ⟨1, rfl, by omega, by omega, by omega, rfl⟩
    case round =>
      obtain ⟨s, rfl, hs, hss, hsx, rfl⟩ := hrel
      have ws := wrap_nat1 s (by omega)
      have w8s : wrap64 (8 * (s : Int)) = 8 * (s : Int) := by unfold wrap64; omega
      have w10 : wrap64 (10 * (n : Int)) = 10 * (n : Int) := by unfold wrap64; omega
      by_cases hlt : s < sz
      · have hz8 : 8 * (s : Int) < 10 * (n : Int) := by have := HSa.out s hs hlt; omega
        go_wp2
        go_roundg (sz - (s + 1))
        case measure => omega
        case rel => exact ⟨s + 1, by go_num, by omega, by omega, Nat.le_refl _, rfl⟩
      · obtain rfl : s = sz := by omega
        have hz8 : ¬ 8 * (s : Int) < 10 * (n : Int) := by have := HSb.out; omega
        have hM8 : 8 * (s : Int) = (M : Int) := by have := HMe.out; omega
        rw [hM8] at w8s
        have hmk := HMk.out w1
        obtain ⟨w2, hw2⟩ : ∃ w2, w1.alloc (.cells (rowC (boolC fun _ => false) M) 4) = w2 := ⟨_, rfl⟩
        rw [hw2] at hmk
        have HF2 := Lib.hid (show Fr (fun _ => False) w1 w2 from by subst hw2; exact (Fr.refl _ w1).alloc _)
        have HW2 := Lib.hid (show Whole w2 w1.heap.size 4 (rowC (boolC (stK (own.take 0) M)) M) from by rw [HS0.out]; subst hw2; exact Whole.new w1 4 _)
        obtain ⟨gs, hgs⟩ : ∃ g, w1.heap.size = g := ⟨_, rfl⟩
        have HGs := Lib.hid hgs
        rw [hgs] at hmk HW2
        clear hw2 hgs
        go_upto_region 8 with fail
        clear hmk
        go_wp2
        go_loopg [6] n (fun kx s6 wr => ∃ k : Nat, s6 = .int .i64 k ∧ k ≤ n ∧ n - k ≤ kx ∧ Hid (Fr (fun _ => False) w1 wr) ∧ Hid (Whole wr gs 4 (rowC (boolC (stK (own.take k) M)) M)))
        case atStart => exact ⟨0, rfl, by omega, by omega, HF2, HW2⟩
        case round =>
          obtain ⟨k, rfl, hkn, hkx, HFk, HWk⟩ := hrel
          obtain ⟨wo, rfl⟩ : ∃ wo, wo = wr := ⟨wr, rfl⟩
          have wk := wrap_nat1 k (by omega)
          by_cases hltk : k < n
          · have hkz : (k : Int) < (n : Int) := by omega
            obtain ⟨b, o, hA, hcA⟩ := lies_nameM HL1.out HFk.out (by rw [HNn.out]; omega)
            subst hA
            have cx := hcA k (by rw [HNn.out]; exact hltk)
            have HKk := Lib.hid (HKp.out k hltk)
            have HSk := Lib.hid (HSn.out k hltk)
            obtain ⟨key, hkey⟩ : ∃ x, own.getD k [] = x := ⟨_, rfl⟩
            rw [hkey] at cx HKk HSk
            have HPk := Lib.hid (HPl.out key)
            have HPj := Lib.hid (HPb.out key)
            obtain ⟨P, hP⟩ : ∃ P, plL key M = P := ⟨_, rfl⟩
            rw [hP] at HKk HSk HPk HPj
            have HTk := Lib.hid (fun i (hi : i < 7) j => mem_snocN (l := P) (i := i) (j := j) (by rw [HPk.out]; exact hi))
            have HT7 := Lib.hid (show P.take 7 = P from by rw [← HPk.out]; exact List.take_length)
            obtain ⟨F, hF⟩ : ∃ F, stK (own.take k) M = F := ⟨_, rfl⟩
            rw [hF] at HWk HSk
            clear hcA hkey hP hF
            go_upto_region 12 with (go_at_call 24; refine (HKk.out _).mono ?_; rintro e w3 ⟨v3, rfl, ho⟩; obtain ⟨A3, c3, hv3, _, _, _, hl3⟩ := ho.shape; rw [HPk.out] at hv3; subst hv3; have HF3 := Lib.hid (HFk.out.trans ho.2 (fun _ _ e => e)); have HW3 := Lib.hid (HWk.out.fr ho.2 (fun e => e)); have hgs3 := HWk.out.lt; have HL3 := Lib.hid (fun w' (q : Fr (fun j => j = gs) w3 w') i hi => lies_nat (hl3.fr q (fun ad hq hj => by subst hq; have h8 := (World.ownsRow.lt ho.1 ad.block rfl).1; have h9 : ad.block = gs := hj; omega)) (Fr.refl (fun _ => False) w') i hi); clear ho hl3 hgs3)
            rw [HPk.out] at HL3
            go_wp2
            go_loopg [8] 7 (fun kx s8 wr => ∃ i : Nat, s8 = .int .i64 i ∧ i ≤ 7 ∧ 7 - i ≤ kx ∧ Hid (Fr (fun j => j = gs) w3 wr) ∧ Hid (Whole wr gs 4 (rowC (boolC (fun j => F j || decide (j ∈ P.take i))) M)))
            case atStart => exact ⟨0, rfl, by omega, by omega, Lib.hid (Fr.refl _ _), Lib.hid (by simpa using HW3.out)⟩
            case round =>
              obtain ⟨i, rfl, hi, hix, HFi, HWi⟩ := hrel
              obtain ⟨wi, rfl⟩ : ∃ wi, wi = wr := ⟨wr, rfl⟩
              have wi1 := wrap_nat1 i (by omega)
              by_cases hi7 : i < 7
              · have hiz : (i : Int) < 7 := by omega
                have hi0 : (0 : Int) ≤ (i : Int) := by omega
                obtain ⟨b4, o4, hB4, cp4⟩ := HL3.out wi HFi.out i hi7
                subst hB4
                have hpM := HPj.out i hi7
                have HTi := Lib.hid (HTk.out i hi7)
                obtain ⟨p, hp⟩ : ∃ p, P.getD i 0 = p := ⟨_, rfl⟩
                rw [hp] at cp4 hpM HTi
                have hp0 : (0 : Int) ≤ (p : Int) := by omega
                have hpz : (p : Int) < (M : Int) := by omega
                have cs := HWi.out.rcell p hpM
                have fs : wi.frozen? ⟨gs, p, none⟩ = false := Whole.frozenN HWi.out p
                simp only [boolC] at cs
                obtain ⟨bb, hbb⟩ : ∃ b, (F p || decide (p ∈ P.take i)) = b := ⟨_, rfl⟩
                rw [hbb] at cs
                have HWn := Lib.hid (HWi.out.rset p (.bool true) hpM (boolC (fun j => F j || decide (j ∈ P.take (i + 1)))) (fun j hj => by
                  unfold boolC
                  by_cases e : j = p
                  · rw [if_pos e, e]
                    have : p ∈ P.take (i + 1) := (HTi.out p).2 (.inr rfl)
                    simp [this]
                  · rw [if_neg e]
                    have : (j ∈ P.take (i + 1)) ↔ j ∈ P.take i := by rw [HTi.out j]; simp [e]
                    simp only [this]))
                have HFn := Lib.hid (show Fr (fun j => j = gs) w3 (wi.setCell ⟨gs, p, none⟩ (.bool true)) from HFi.out.setCell (p := ⟨gs, p, none⟩) (fun _ => rfl) _)
                clear hp hbb
                go_wp2
                go_roundg (7 - (i + 1))
                case measure => omega
                case rel => exact ⟨i + 1, by go_num, by omega, Nat.le_refl _, HFn, HWn⟩
              · obtain rfl : i = 7 := by omega
                have HWe := Lib.hid (show Whole wi gs 4 (rowC (boolC (stK (own.take (k + 1)) M)) M) from by
                  have h9 := HWi.out
                  rw [HT7.out] at h9
                  rwa [rowC_congr (f := boolC (stK (own.take (k + 1)) M)) (fun j hj => by unfold boolC; rw [HSk.out j])] at h9)
                have HFe := Lib.hid (show Fr (fun _ => False) w1 wi from HF3.out.trans HFi.out (fun j hj e => by have := HGs.out; have e2 : j = gs := e; omega))
                go_wp2
                go_roundg (n - (k + 1))
                case measure => omega
                case rel => exact ⟨k + 1, by go_num, by omega, Nat.le_refl _, HFe, HWe⟩
          · obtain rfl : k = n := by omega
            rw [HTa.out] at HWk
            have HVe := Lib.hid (show V = fltB (stK own M) s from HV.out)
            have HFs := Lib.hid (fltB_succ (stK own M))
            have HFl := Lib.hid (fltB_len (stK own M))
            have HF0 := Lib.hid (show fltB (stK own M) 0 = [] from rfl)
            have HCl := Lib.hid (fun base => show cB (stK own M) base 8 < 256 from cB_lt (stK own M) base 8)
            have HCb := Lib.hid (fun base t => cB_lt (stK own M) base t)
            have HC0 := Lib.hid (fun base => show cB (stK own M) base 0 = 0 from rfl)
            have HCs := Lib.hid (fun base t => show cB (stK own M) base (t + 1) = 2 * cB (stK own M) base t + (if stK own M (base + (7 - t)) = true then 1 else 0) from rfl)
            obtain ⟨st, hst⟩ : ∃ f, stK own M = f := ⟨_, rfl⟩
            rw [hst] at HWk HVe HFs HFl HF0 HCl HCb HC0 HCs
            have HM8 := Lib.hid hM8
            have HFw := Lib.hid (show Fr (fun _ => False) w wo from HF1.out.trans HFk.out (fun _ _ e => e))
            clear hst HV HSn HKp HPb HPl HMk
            go_wp2
            go_loopg [9, 10] s (fun kx s9 s10 wr => ∃ (q : Nat) (v : Value), s10 = .int .i64 q ∧ v = s9 ∧ q ≤ s ∧ s - q ≤ kx ∧ Hid (OwnB wo wr v (fltB st q)))
            case atStart => exact ⟨0, .slice none 0 0, rfl, rfl, by omega, by omega, Lib.hid (by rw [HF0.out]; exact OwnB.nil (Fr.refl _ _))⟩
            case round =>
              obtain ⟨q, v, rfl, rfl, hq, hqx, HO⟩ := hrel
              obtain ⟨wq, rfl⟩ : ∃ wq, wq = wr := ⟨wr, rfl⟩
              have wq1 := wrap_nat1 q (by omega)
              by_cases hqs : q < s
              · have hqz : (q : Int) < (s : Int) := by omega
                have HWq := Lib.hid (HWk.out.fr HO.out.2 (fun e => e))
                obtain ⟨Aq, cq, hvq, hcq, -⟩ := HO.out.slice
                rw [HFl.out] at hvq
                subst hvq
                obtain ⟨B, hB⟩ : ∃ B, 8 * q = B := ⟨_, rfl⟩
                have w8q : wrap64 (8 * (q : Int)) = (B : Int) := by unfold wrap64; omega
                have HBM := Lib.hid (show B + 8 ≤ M from by have := HM8.out; omega)
                have HSq := Lib.hid (HFs.out q)
                have HCq := Lib.hid (HCl.out (8 * q))
                rw [hB] at HSq HCq
                have HBe := Lib.hid hB
                clear hB
                go_upto_region 22 with fail
                go_loopg [11, 12] 8 (fun kx s11 s12 wr => ∃ (t : Nat) (z : Int), s12 = .int .i64 z ∧ z = 7 - (t : Int) ∧ s11 = .int .i64 (cB st B t : Nat) ∧ t ≤ 8 ∧ 8 - t ≤ kx ∧ wq = wr)
                case atStart => exact ⟨0, 7, rfl, by omega, by rw [HC0.out]; rfl, by omega, by omega, rfl⟩
                case round =>
                  obtain ⟨t, z, rfl, hz, rfl, ht, htx, rfl⟩ := hrel
                  by_cases ht8 : t < 8
                  · obtain ⟨j, hj⟩ : ∃ j, 7 - t = j := ⟨_, rfl⟩
                    have hjz : z = (j : Int) := by omega
                    subst hjz
                    have hge : (0 : Int) ≤ (j : Int) := by omega
                    have hCt := HCb.out B t
                    have h2t : 2 ^ t ≤ 128 := by have : t ≤ 7 := by omega
                                                 exact Nat.le_trans (Nat.pow_le_pow_right (by omega) this) (by decide)
                    have HCn := Lib.hid (HCs.out B t)
                    obtain ⟨C, hC⟩ : ∃ C, cB st B t = C := ⟨_, rfl⟩
                    rw [hC] at hCt HCn
                    rw [hj] at HCn
                    rw [hC]
                    have hC7 : C ≤ 127 := by omega
                    clear hCt h2t
                    have w2c : wrap64 (2 * (C : Int)) = 2 * (C : Int) := by unfold wrap64; omega
                    have wc1 : IntKind.i64.wrap (2 * (C : Int) + 1) = 2 * (C : Int) + 1 := by rw [IntKind.wrap_i64]; omega
                    have wj1 : IntKind.i64.wrap ((j : Int) - 1) = (j : Int) - 1 := by rw [IntKind.wrap_i64]; omega
                    obtain ⟨x, hx⟩ : ∃ x, B + j = x := ⟨_, rfl⟩
                    have hxM : x < M := lt_addN hx hj HBM.out
                    have hMN : M ≤ 2008 := by clear wc1 wj1 w2c w8q ws w8s wq1 hx hj; omega
                    have wx : wrap64 ((B : Int) + (j : Int)) = (x : Int) := wrap_addN B j x hx (Nat.le_trans (Nat.le_of_lt hxM) (Nat.le_trans hMN (by decide)))
                    have hx0 : (0 : Int) ≤ (x : Int) := Int.natCast_nonneg x
                    have hxz : (x : Int) < (M : Int) := Int.ofNat_lt.2 hxM
                    have cx := HWq.out.rcell x hxM
                    simp only [boolC] at cx
                    have hx8 : 8 * q + j = x := by rw [HBe.out]; exact hx
                    rw [hx] at HCn
                    have cx : wq.cell? ⟨gs, 8 * q + j, none⟩ = some (.bool (st x)) := by rw [hx8]; exact cx
                    clear hx8
                    have hj7 := hj
                    clear hj hC hx
                    cases hb : st x
                    · rw [hb] at cx HCn
                      simp only [Bool.false_eq_true, if_false, Nat.add_zero] at HCn
                      go_wp2
                      go_roundg (8 - (t + 1))
                      case measure => omega
                      case rel => exact ⟨t + 1, _, rfl, by omega, by rw [HCn.out]; push_cast; rfl, by omega, Nat.le_refl _, rfl⟩
                    · rw [hb] at cx HCn
                      simp only [if_true] at HCn
                      go_wp2
                      go_roundg (8 - (t + 1))
                      case measure => omega
                      case rel => exact ⟨t + 1, _, rfl, by omega, by rw [HCn.out]; push_cast; rfl, by omega, Nat.le_refl _, rfl⟩
                  · obtain rfl : t = 8 := by omega
                    have hzn : ¬ (0 : Int) ≤ z := by omega
                    obtain ⟨C, hC⟩ : ∃ C, cB st B 8 = C := ⟨_, rfl⟩
                    have HC8 := HCq.out
                    rw [hC] at HC8 HSq
                    rw [hC]
                    have wC : IntKind.u8.wrap (C : Int) = (C : Int) := by rw [IntKind.wrap_u8]; omega
                    have HCu := Lib.hid (show (UInt8.ofNat C).toNat = C from by simp; omega)
                    clear hC
                    go_wp2_with (at_builtin; refine wpList_append_row _ rfl (.tmp 75) (.tmp 78) 28 28 rfl wo.heap.size 5 i0 (.int .u8 0) 1 1 Try.underlying28 hii hz0 hz1 hz2 rfl _ q (bytesV (fltB st q)) rfl (by have := (HO.out.fr ((Fr.refl _ wq).alloc (.cells #[.int .u8 C] 5))).1; rwa [HFl.out] at this) _ 1 (bytesV [UInt8.ofNat C]) rfl (src_lit wq _ [UInt8.ofNat C] (by show [_] = [Value.int .u8 (((UInt8.ofNat C).toNat : Nat) : Int)]; rw [HCu.out]) 1 rfl) (by unfold maxLen; omega) (by omega) (by have := HO.out.2.size; simp; omega) ?_
                                 intro v9 w9 o9 g9 at9
                                 have K9 := Lib.hid ((HO.out.fr ((Fr.refl _ wq).alloc _)).grow (n := q) (k := 1) (m := [UInt8.ofNat C]) (HFl.out q).symm rfl o9 g9)
                                 clear o9 g9 at9)
                    go_roundg (s - (q + 1))
                    case measure => omega
                    case rel => exact ⟨q + 1, v9, by go_num, rfl, by omega, Nat.le_refl _, by rw [HSq.out]; exact K9⟩
              · obtain rfl : q = s := by omega
                go_wp2
                go_ret
                exact ⟨v, rfl, by rw [HVe.out]; exact HO.out.weakN HFw.out⟩
end Go.Proofs.Ytgmohgofcjemkaa

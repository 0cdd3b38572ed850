/- What is proved: texts that stand one behind the other: Ixt Ixu Iyc Ixv. Conditions: each theorem names its own. -/
import Derived.Test.YtgbhdjncccmabaaGreatDoorIxp
import Derived.Test.YtgbhdjncccmabaaGreatDoorIxf
import Derived.Test.YtgbhdjncccmabaaGreatDoorQIxq
/- What is proved: the bytes of an index of places that rise are an index, of just these, plainly. Conditions: at most 600 places, each from 0 to 2^20, whose ids rise. -/
namespace Go.Proofs.YtgbhdjncccmabaaGreatDoor
open Go.RowKit
set_option linter.unusedVariables false

theorem block_at {α : Type} (g : α → List UInt8) (d : Nat) (hd : ∀ a, (g a).length = d) (l : List α) : ∀ (k : Nat) (a : α) (rest : List UInt8), l[k]? = some a → ((l.flatMap g ++ rest).drop (d * k)).take d = g a := by
  induction l with
  | nil => intro k a rest h; simp at h
  | cons x l ih =>
    intro k a rest h
    rw [List.flatMap_cons, List.append_assoc]
    cases k with
    | zero =>
      have : x = a := by simpa using h
      subst this
      rw [Nat.mul_zero, List.drop_zero, List.take_append_of_le_length (by rw [hd]; exact Nat.le_refl _), List.take_of_length_le (by rw [hd]; exact Nat.le_refl _)]
    | succ k =>
      rw [show d * (k + 1) = (g x).length + d * k by rw [hd, Nat.mul_succ]; omega, List.drop_append, List.drop_of_length_le (by omega), List.nil_append, show (g x).length + d * k - (g x).length = d * k by omega]
      exact ih k a rest (by simpa using h)
theorem drop_ahead (a b : List UInt8) (m : Nat) (h : a.length = m) (k : Nat) : (a ++ b).drop (m + k) = b.drop k := by
  rw [List.drop_append, List.drop_of_length_le (by omega), List.nil_append, show m + k - a.length = k by omega]
theorem fan255 (ns : List Nat) : fanN ns 255 = ns.length := by
  unfold fanN
  rw [List.countP_eq_length]
  intro n _
  have := b0_lt n
  simp
  omega
theorem fanB_eq (ns : List Nat) : fanB ns = (List.range 256).flatMap fun c => hiB (fanN ns c : Nat) 4 4 := rfl
theorem joinI_idsP (s : List Pl) : joinI (idsP s) = s.flatMap fun p => idL p.id := by simp [joinI, idsP, List.flatMap_map]
theorem file_props (s : List Pl) (of : Nat) (hn : s.length ≤ 600) (hid : ∀ p ∈ s, p.id < big) (hsm : ∀ p ∈ s, 0 ≤ p.sm ∧ p.sm < 4294967296) (hpos : ∀ p ∈ s, 0 ≤ p.pos ∧ p.pos ≤ 1048576) (hr : ris (idsP s)) (hof : of < big) :
    nB (fileI s of) = s.length ∧ opE (fileI s of) = 0 ∧ (∀ k, k < s.length → keyR (midB (fileI s of)) k = (s[k]!).id ∧ ((smR (midB (fileI s of)) s.length k : Nat) : Int) = (s[k]!).sm ∧ ((atR (midB (fileI s of)) s.length k : Nat) : Int) = (s[k]!).pos) ∧
    ofR (midB (fileI s of)) s.length = of ∧ ∀ c, c < 256 → fanR (midB (fileI s of)) c = fanN (idsP s) c := by
  obtain ⟨n, hnd⟩ : ∃ n, s.length = n := ⟨_, rfl⟩
  have hL := fileI_len s of
  have hbl := bodyI_len s of
  have hil := idsP_len s
  rw [hnd] at hL hbl hn hil ⊢
  obtain ⟨R, hR⟩ : ∃ R, joinI (idsP s) ++ (smB s ++ (atB s ++ idL of)) = R := ⟨_, rfl⟩
  have hbody : bodyI s of = wordI ++ (fanB (idsP s) ++ R) := by rw [← hR, bodyI]; simp [List.append_assoc]
  have hfile : fileI s of = wordI ++ (fanB (idsP s) ++ (R ++ sumL (bodyI s of))) := by rw [fileI, hbody]; simp [List.append_assoc]
  have hRl : R.length = 40 * n + 32 := by rw [← hR]; simp only [List.length_append, joinI_len, smB_len, atB_len, idL_len, hil, hnd]; omega
  have hmid : midB (fileI s of) = fanB (idsP s) ++ R := by
    rw [midB, hL, hfile, show (8 : Nat) = 8 + 0 from rfl, drop_ahead wordI _ 8 wordI_len 0, List.drop_zero, ← List.append_assoc, List.take_append_of_le_length (by rw [List.length_append, fanB_len, hRl]; omega), List.take_of_length_le (by rw [List.length_append, fanB_len, hRl]; omega)]
  have hfan : ∀ (c : Nat) (rest : List UInt8), c < 256 → u4 (fanB (idsP s) ++ rest) (4 * c) = fanN (idsP s) c := fun c rest hc => by
    have h := block_at (fun c => hiB (fanN (idsP s) c : Nat) 4 4) 4 (fun a => hiB_length _ _ _) (List.range 256) c c rest (by simp [hc])
    rw [← fanB_eq] at h
    have hle := fanN_le (idsP s) c
    unfold u4
    rw [h]
    have := big_hiB (fanN (idsP s) c : Nat) (by omega) (by omega)
    omega
  have h1028 : u4 (fileI s of) 1028 = n := by
    have : u4 (fileI s of) 1028 = u4 (fanB (idsP s) ++ (R ++ sumL (bodyI s of))) (4 * 255) := by
      unfold u4
      rw [hfile, show 1028 = 8 + 4 * 255 from rfl, drop_ahead wordI _ 8 wordI_len]
    rw [this, hfan 255 _ (by decide), fan255, hil]
  have hnB : nB (fileI s of) = n := h1028
  have hw4 : (fileI s of).take 4 = [73, 78, 68, 88] := by
    rw [hfile, List.take_append_of_le_length (by rw [wordI_len]; decide)]; rfl
  have hu4 : u4 (fileI s of) 4 = 1 := by
    unfold u4
    rw [hfile, List.drop_append_of_le_length (by rw [wordI_len]; decide), List.take_append_of_le_length (by rw [List.length_drop, wordI_len]; decide)]
    decide
  have hcnt : cntR (fileI s of) = (n, 0) := by
    unfold cntR wordB
    rw [hw4, hu4, h1028, hL, if_neg (by omega), if_neg (by simp), if_neg (by omega), if_neg (by omega), if_neg (by omega)]
  have hsum : sumOk (fileI s of) = true := by
    unfold sumOk
    rw [hL, show 1096 + 40 * n - 32 = 1064 + 40 * n by omega, fileI, List.take_append_of_le_length (by omega), List.take_of_length_le (by omega), show 1064 + 40 * n = 1064 + 40 * n + 0 from rfl, drop_ahead _ _ _ hbl 0, List.drop_zero]
    simp
  have hrow : ∀ k, k < n → s[k]? = some s[k]! := fun k hk => some_pl (by rw [hnd]; exact hk)
  have hmem : ∀ k, k < n → s[k]! ∈ s := fun k hk => List.mem_of_getElem? (hrow k hk)
  have hkey : ∀ k, k < n → keyR (midB (fileI s of)) k = (s[k]!).id := fun k hk => by
    unfold keyR
    rw [hmid, drop_ahead _ _ 1024 (fanB_len _), ← hR, joinI_idsP, block_at (fun p : Pl => idL p.id) 32 (fun a => idL_len _) s k _ _ (hrow k hk), bigV_idL _ (hid _ (hmem k hk))]
  have hJl : (joinI (idsP s)).length = 32 * n := by rw [joinI_len, hil]
  have hSl : (smB s).length = 4 * n := by rw [smB_len, hnd]
  have hAl : (atB s).length = 4 * n := by rw [atB_len, hnd]
  have hsmr : ∀ k, k < n → ((smR (midB (fileI s of)) n k : Nat) : Int) = (s[k]!).sm := fun k hk => by
    unfold smR u4
    rw [hmid, show 1024 + 32 * n + 4 * k = 1024 + (32 * n + 4 * k) by omega, drop_ahead _ _ 1024 (fanB_len _), ← hR, drop_ahead _ _ (32 * n) hJl, smB, block_at (fun p : Pl => hiB p.sm 4 4) 4 (fun a => hiB_length _ _ _) s k _ _ (hrow k hk)]
    exact big_hiB _ (hsm _ (hmem k hk)).1 (hsm _ (hmem k hk)).2
  have hatr : ∀ k, k < n → ((atR (midB (fileI s of)) n k : Nat) : Int) = (s[k]!).pos := fun k hk => by
    unfold atR u4
    rw [hmid, show 1024 + 36 * n + 4 * k = 1024 + (32 * n + (4 * n + 4 * k)) by omega, drop_ahead _ _ 1024 (fanB_len _), ← hR, drop_ahead _ _ (32 * n) hJl, drop_ahead _ _ (4 * n) hSl, atB, block_at (fun p : Pl => hiB p.pos 4 4) 4 (fun a => hiB_length _ _ _) s k _ _ (hrow k hk)]
    have := hpos _ (hmem k hk)
    exact big_hiB _ this.1 (by omega)
  have hofr : ofR (midB (fileI s of)) n = of := by
    unfold ofR
    rw [hmid, show 1024 + 40 * n = 1024 + (32 * n + (4 * n + (4 * n + 0))) by omega, drop_ahead _ _ 1024 (fanB_len _), ← hR, drop_ahead _ _ (32 * n) hJl, drop_ahead _ _ (4 * n) hSl, drop_ahead _ _ (4 * n) hAl, List.drop_zero, List.take_of_length_le (by rw [idL_len]; exact Nat.le_refl _), bigV_idL of hof]
  have hfr : ∀ c, c < 256 → fanR (midB (fileI s of)) c = fanN (idsP s) c := fun c hc => by
    unfold fanR
    rw [hmid, hfan c R hc]
  have hids : idsB (fileI s of) = idsP s := by
    unfold idsB
    rw [hnB]
    apply List.ext_getElem
    · rw [keyL_len, hil]
    · intro k h1 h2
      rw [keyL_len] at h1
      have e1 : (keyL n (keyR (midB (fileI s of))))[k] = keyR (midB (fileI s of)) k := by simp [keyL]
      have e2 : (idsP s)[k] = (s[k]!).id := by simp [idsP, getElem!_pos s k (by omega)]
      rw [e1, e2, hkey k h1]
  refine ⟨hnB, ?_, fun k hk => ⟨hkey k hk, hsmr k hk, hatr k hk⟩, hofr, hfr⟩
  have hfo : fanOk (fileI s of) = true := by
    unfold fanOk
    rw [sameF_iff, hids]
    exact hfr
  have hao : atOk (fileI s of) = true := by
    unfold atOk
    rw [hnB, List.all_eq_true]
    intro k hk
    have h1 := hatr k (List.mem_range.1 hk)
    have h2 := hpos _ (hmem k (List.mem_range.1 hk))
    simp
    omega
  unfold opE
  rw [hcnt, if_neg (by simp), hsum, if_neg (by simp), hids, (risB_iff (idsP s)).2 hr, hfo, if_neg (by simp), hao, if_neg (by simp)]
end Go.Proofs.YtgbhdjncccmabaaGreatDoor
/- What is proved: what Find tells of rising ids and their fan-out, plainly. Conditions: the ids rise, and are ids. -/
namespace Go.Proofs.YtgbhdjncccmabaaGreatDoor
open Go.RowKit
set_option linter.unusedVariables false

theorem b0_div (n : Nat) (h : n < big) : b0 n = n / 2 ^ 248 := by
  unfold b0
  rw [dgt_byt n 0 (by decide)]
  have h2 : n < 2 ^ 248 * 256 := by have : n < 2 ^ 256 := h; rw [show (2 : Nat) ^ 248 * 256 = 2 ^ 256 from by rw [show (256 : Nat) = 2 ^ 8 from rfl, ← Nat.pow_add]]; exact this
  have : n / 2 ^ 248 < 256 := Nat.div_lt_of_lt_mul h2
  rw [show 8 * (31 - 0) = 248 from rfl]
  exact Nat.mod_eq_of_lt this
theorem b0_mono {a b : Nat} (ha : a < big) (hb : b < big) (h : a ≤ b) : b0 a ≤ b0 b := by
  rw [b0_div a ha, b0_div b hb]
  exact Nat.div_le_div_right h
theorem fan_at {ns : List Nat} (hr : ris ns) (hb : ∀ n ∈ ns, n < big) (c : Nat) (i : Nat) (hi : i < ns.length) : b0 (gt ns i) ≤ c ↔ i < fanN ns c := by
  obtain ⟨m, hm, hP⟩ : ∃ m, m ≤ ns.length ∧ ∀ i, i < ns.length → (b0 (gt ns i) ≤ c ↔ i < m) := by
    refine ⟨ns.findIdx fun n => decide (¬ b0 n ≤ c), List.findIdx_le_length, fun i hi => ⟨fun h => ?_, fun h => ?_⟩⟩
    · refine Decidable.byContradiction (fun hc => ?_)
      have hlt : ns.findIdx (fun n => decide (¬ b0 n ≤ c)) < ns.length := by omega
      have h1 := List.findIdx_getElem (w := hlt)
      simp only [decide_not, Bool.not_eq_true', decide_eq_false_iff_not] at h1
      have e1 : gt ns (ns.findIdx fun n => decide (¬ b0 n ≤ c)) = ns[ns.findIdx fun n => decide (¬ b0 n ≤ c)] := by
        rw [gt, List.getD_eq_getElem?_getD, List.getElem?_eq_getElem hlt]; rfl
      have h2 : gt ns (ns.findIdx fun n => decide (¬ b0 n ≤ c)) ≤ gt ns i := by
        rcases Nat.eq_or_lt_of_le (show ns.findIdx (fun n => decide (¬ b0 n ≤ c)) ≤ i by omega) with e | e
        · rw [e]; exact Nat.le_refl _
        · exact Nat.le_of_lt (hr _ _ e hi)
      have h3 := b0_mono (hb _ (gt_mem ns _ hlt)) (hb _ (gt_mem ns i hi)) h2
      rw [e1] at h3
      simp only [decide_not] at h3
      omega
    · have h1 := List.not_of_lt_findIdx h
      simp only [decide_not, Bool.not_eq_eq_eq_not] at h1
      have e1 : gt ns i = ns[i] := by rw [gt, List.getD_eq_getElem?_getD, List.getElem?_eq_getElem hi]; rfl
      rw [e1]
      simpa using h1
  have hc := cnt_seg (fun n => decide (b0 n ≤ c)) ns 0 m (fun i hi => by rw [decide_eq_decide]; have := hP i hi; omega) ns.length (Nat.le_refl _)
  rw [List.take_length] at hc
  have : fanN ns c = m := by unfold fanN; omega
  rw [this]
  exact hP i hi
theorem lo_at {ns : List Nat} (hr : ris ns) (hb : ∀ n ∈ ns, n < big) (c : Nat) (i : Nat) (hi : i < ns.length) : b0 (gt ns i) < c ↔ i < loF (fanN ns) c := by
  unfold loF
  by_cases h : c = 0
  · rw [if_pos h]; omega
  · rw [if_neg h, ← fan_at hr hb (c - 1) i hi]; omega
theorem lo_le {ns : List Nat} (c : Nat) : loF (fanN ns) c ≤ fanN ns c := by
  unfold loF
  by_cases h : c = 0
  · rw [if_pos h]; omega
  · rw [if_neg h]
    have := fanN_succ ns (c - 1)
    rw [show c - 1 + 1 = c by omega] at this
    omega
theorem loF_congr {f g : Nat → Nat} (h : ∀ c, c < 256 → f c = g c) (c : Nat) (hc : c < 256) : loF f c = loF g c := by
  unfold loF
  by_cases h0 : c = 0
  · rw [if_pos h0, if_pos h0]
  · rw [if_neg h0, if_neg h0, h _ (by omega)]
/-- Where an id stands among rising ones. -/
theorem find_at {n : Nat} {f ks : Nat → Nat} (hr : ris (keyL n ks)) (hb : ∀ m ∈ keyL n ks, m < big) (hf : ∀ c, c < 256 → f c = fanN (keyL n ks) c) (x : Nat) (hx : x < big) :
    fhsI n f ks x = hasN (keyL n ks) x ∧ (hasN (keyL n ks) x = true → loF f (b0 x) + posN (subI f (keyL n ks) x) x = posN (keyL n ks) x) := by
  have hlo : loF f (b0 x) = loF (fanN (keyL n ks)) (b0 x) := loF_congr hf _ (b0_lt x)
  have hhi : f (b0 x) = fanN (keyL n ks) (b0 x) := hf _ (b0_lt x)
  have hsub : subI f (keyL n ks) x = ((keyL n ks).drop (loF (fanN (keyL n ks)) (b0 x))).take (fanN (keyL n ks) (b0 x) - loF (fanN (keyL n ks)) (b0 x)) := by unfold subI; rw [hlo, hhi]
  have h1 := lo_le (ns := keyL n ks) (b0 x)
  have h2 := fanN_le (keyL n ks) (b0 x)
  have hA := fun i hi => fan_at hr hb (b0 x) i hi
  have hB := fun i hi => lo_at hr hb (b0 x) i hi
  unfold fhsI
  rw [hlo, hsub]
  generalize keyL n ks = ns at *
  generalize loF (fanN ns) (b0 x) = lo at *
  generalize fanN ns (b0 x) = hi at *
  have hL : ((ns.drop lo).take (hi - lo)).length = hi - lo := by rw [List.length_take, List.length_drop]; omega
  have hg : ∀ k, k < hi - lo → gt ((ns.drop lo).take (hi - lo)) k = gt ns (lo + k) := fun k h1 => by
    rw [gt, gt, List.getD_eq_getElem?_getD, List.getD_eq_getElem?_getD, List.getElem?_take, if_pos h1, List.getElem?_drop]
  have hrs : ris ((ns.drop lo).take (hi - lo)) := ris_cut hr _ _
  have key : ∀ p, p < ns.length → gt ns p = x → hasN ((ns.drop lo).take (hi - lo)) x = true ∧ lo + posN ((ns.drop lo).take (hi - lo)) x = p := fun p hp e => by
    have ha : p < hi := (hA p hp).1 (by rw [e]; exact Nat.le_refl _)
    have hb2 : ¬ p < lo := fun h => by have := (hB p hp).2 h; rw [e] at this; omega
    have hpos : posN ((ns.drop lo).take (hi - lo)) x = p - lo := pos_unique _ x (p - lo) (by rw [hL]; omega) (fun i hi2 => by
      rw [hg i (by omega), ← e]
      exact hr _ _ (by omega) hp) (fun h => by
      rw [hg (p - lo) (by omega), show lo + (p - lo) = p by omega, e]
      exact Nat.le_refl _)
    refine ⟨?_, by omega⟩
    unfold hasN
    rw [hpos, hL]
    exact decide_eq_true ⟨by omega, by rw [hg (p - lo) (by omega), show lo + (p - lo) = p by omega, e]⟩
  cases hh : hasN ns x with
  | true =>
    have h3 := of_decide_eq_true hh
    have h4 := key _ h3.1 h3.2
    exact ⟨h4.1, fun _ => h4.2⟩
  | false =>
    refine ⟨?_, fun h => by cases h⟩
    cases hs : hasN ((ns.drop lo).take (hi - lo)) x with
    | false => rfl
    | true =>
      have h3 := of_decide_eq_true hs
      rw [hL] at h3
      have h5 := h3.2
      rw [hg _ h3.1] at h5
      exfalso
      have hpp : lo + posN ((ns.drop lo).take (hi - lo)) x < ns.length := by omega
      have hpos : posN ns x = lo + posN ((ns.drop lo).take (hi - lo)) x := pos_unique ns x _ (by omega) (fun i hi2 => by rw [← h5]; exact hr _ _ hi2 hpp) (fun _ => by rw [h5]; exact Nat.le_refl _)
      have : hasN ns x = true := by
        unfold hasN
        rw [hpos]
        exact decide_eq_true ⟨hpp, h5⟩
      rw [hh] at this
      cases this
end Go.Proofs.YtgbhdjncccmabaaGreatDoor
/- What is proved: what an index's bytes tell makes just these bytes; an index has just the places that it was made of, plainly. Conditions: each theorem names its own. -/
namespace Go.Proofs.YtgbhdjncccmabaaGreatDoor
open Go.RowKit
set_option linter.unusedVariables false

theorem chunks (d : Nat) (l : List UInt8) (m : Nat) : (List.range m).flatMap (fun k => (l.drop (d * k)).take d) = l.take (d * m) := by
  induction m with
  | zero => simp
  | succ m ih => rw [List.range_succ, List.flatMap_append, ih, Nat.mul_succ, List.take_add]; simp
theorem chunksAt (d o : Nat) (l : List UInt8) (m : Nat) : (List.range m).flatMap (fun k => (l.drop (o + d * k)).take d) = (l.drop o).take (d * m) := by
  have := chunks d (l.drop o) m
  simp only [List.drop_drop] at this
  exact this
theorem flatMap_same {α : Type} {l : List α} {f g : α → List UInt8} (h : ∀ a ∈ l, f a = g a) : l.flatMap f = l.flatMap g := by
  rw [List.flatMap_def, List.flatMap_def, List.map_congr_left h]
/-- The places that an index's bytes tell. -/
def plsB (b : List UInt8) : List Pl := (List.range (nB b)).map fun k => ⟨keyR (midB b) k, (atR (midB b) (nB b) k : Nat), (smR (midB b) (nB b) k : Nat)⟩
theorem plsB_len (b : List UInt8) : (plsB b).length = nB b := by simp [plsB]
theorem plsB_at (b : List UInt8) (k : Nat) (h : k < nB b) : (plsB b)[k]! = ⟨keyR (midB b) k, (atR (midB b) (nB b) k : Nat), (smR (midB b) (nB b) k : Nat)⟩ := by
  rw [getElem!_pos _ k (by rw [plsB_len]; exact h)]
  simp [plsB]
theorem idsP_plsB (b : List UInt8) : idsP (plsB b) = idsB b := by
  unfold idsP plsB idsB keyL
  rw [List.map_map]
  rfl
theorem plsB_ok (b : List UInt8) : ∀ p ∈ plsB b, p.Ok := fun p hp => by
  obtain ⟨k, _, rfl⟩ := List.mem_map.1 hp
  have h1 := u4_lt (midB b) (1024 + 32 * nB b + 4 * k)
  have h2 := u4_lt (midB b) (1024 + 36 * nB b + 4 * k)
  unfold smR atR
  exact ⟨keyR_big _ _, by show (-9223372036854775808 : Int) ≤ (u4 _ _ : Nat); omega, by show ((u4 _ _ : Nat) : Int) ≤ 9223372036854775807; omega, by show (0 : Int) ≤ (u4 _ _ : Nat); omega, by show ((u4 _ _ : Nat) : Int) < 4294967296; omega⟩
theorem opE_ok {b : List UInt8} (h : opE b = 0) : (cntR b).2 = 0 ∧ sumOk b = true ∧ ris (idsB b) ∧ (∀ c, c < 256 → fanR (midB b) c = fanN (idsB b) c) ∧ ∀ k, k < nB b → atR (midB b) (nB b) k ≤ 1048576 := by
  unfold opE at h
  split at h
  · rename_i h1; exact absurd h h1
  split at h
  · cases h
  split at h
  · cases h
  split at h
  · cases h
  rename_i h1 h2 h3 h4
  refine ⟨by simpa using h1, by simpa using h2, (risB_iff _).1 ?_, (sameF_iff _ _).1 ?_, fun k hk => ?_⟩
  · cases hr : risB (idsB b)
    · exact absurd (.inl hr) h3
    · rfl
  · cases hr : fanOk b
    · exact absurd (.inr hr) h3
    · exact hr
  · have h5 : atOk b = true := by simpa using h4
    exact of_decide_eq_true (List.all_eq_true.1 h5 k (List.mem_range.2 hk))
theorem back_body {b : List UInt8} (h : opE b = 0) : bodyI (plsB b) (ofR (midB b) (nB b)) = b.take (b.length - 32) := by
  obtain ⟨h1, h2, h3, h4, h5⟩ := opE_ok h
  obtain ⟨-, hl, hn, hw, hu⟩ := cnt_ok h1
  have hm := midB_len hl
  obtain ⟨n, hnd⟩ : ∃ n, nB b = n := ⟨_, rfl⟩
  rw [hnd] at hl hn hm
  have e8 : wordI = b.take 8 := by
    have ha : b.take 4 = [73, 78, 68, 88] := of_decide_eq_true hw
    have hb : hiB (bigV ((b.drop 4).take 4)) 4 4 = (b.drop 4).take 4 := hiB_bigV4 _ (by rw [List.length_take, List.length_drop]; omega)
    unfold u4 at hu
    rw [hu] at hb
    rw [show (8 : Nat) = 4 + 4 from rfl, List.take_add, ha, ← hb]
    rfl
  have eb : b.take (b.length - 32) = b.take 8 ++ midB b := by
    rw [midB, ← List.take_add]
    congr 1
    omega
  have ef : fanB (idsP (plsB b)) = (midB b).take 1024 := by
    rw [fanB_eq, idsP_plsB]
    have hc := chunks 4 (midB b) 256
    rw [← hc]
    refine flatMap_same (fun c hc => ?_)
    have hc2 := List.mem_range.1 hc
    rw [← h4 c hc2]
    unfold fanR u4
    exact hiB_bigV4 _ (by rw [List.length_take, List.length_drop]; omega)
  have ek : joinI (idsP (plsB b)) = ((midB b).drop 1024).take (32 * n) := by
    rw [idsP_plsB, joinI, idsB, keyL, hnd, List.flatMap_map, ← chunksAt]
    refine flatMap_same (fun k hk => ?_)
    have hk2 := List.mem_range.1 hk
    unfold keyR
    exact idL_bigV _ (by rw [List.length_take, List.length_drop]; omega)
  have es : smB (plsB b) = ((midB b).drop (1024 + 32 * n)).take (4 * n) := by
    rw [smB, plsB, hnd, List.flatMap_map, ← chunksAt]
    refine flatMap_same (fun k hk => ?_)
    have hk2 := List.mem_range.1 hk
    show hiB (smR (midB b) n k : Nat) 4 4 = _
    unfold smR u4
    exact hiB_bigV4 _ (by rw [List.length_take, List.length_drop]; omega)
  have ea : atB (plsB b) = ((midB b).drop (1024 + 36 * n)).take (4 * n) := by
    rw [atB, plsB, hnd, List.flatMap_map, ← chunksAt]
    refine flatMap_same (fun k hk => ?_)
    have hk2 := List.mem_range.1 hk
    show hiB (atR (midB b) n k : Nat) 4 4 = _
    unfold atR u4
    exact hiB_bigV4 _ (by rw [List.length_take, List.length_drop]; omega)
  have eo : idL (ofR (midB b) n) = ((midB b).drop (1024 + 40 * n)).take 32 := by
    unfold ofR
    exact idL_bigV _ (by rw [List.length_take, List.length_drop]; omega)
  have em : (midB b).take 1024 ++ (((midB b).drop 1024).take (32 * n) ++ (((midB b).drop (1024 + 32 * n)).take (4 * n) ++ (((midB b).drop (1024 + 36 * n)).take (4 * n) ++ ((midB b).drop (1024 + 40 * n)).take 32))) = midB b := by
    rw [show 1024 + 36 * n = 1024 + 32 * n + 4 * n by omega, show 1024 + 40 * n = 1024 + 32 * n + 4 * n + 4 * n by omega, ← List.append_assoc, ← List.take_add, ← List.append_assoc, ← List.take_add, ← List.append_assoc, ← List.take_add, ← List.take_add, List.take_of_length_le (by omega)]
  rw [bodyI, hnd, ef, ek, es, ea, eo, e8, eb]
  simp only [List.append_assoc]
  rw [em]
theorem sorted_ris {s : List Pl} (h : ris (idsP s)) : s.Pairwise leP ∧ dupS s = false := by
  refine ⟨sorted_at (fun i j hij hj => ?_), ?_⟩
  · have := h i j hij (by rw [idsP_len]; exact hj)
    rw [idsP_gt _ _ (by omega), idsP_gt _ _ hj] at this
    omega
  · cases hd : dupS s
    · rfl
    · obtain ⟨k, hk, e⟩ := (dupS_iff s).1 hd
      have := h k (k + 1) (by omega) (by rw [idsP_len]; exact hk)
      rw [idsP_gt _ _ (by omega), idsP_gt _ _ hk] at this
      omega
/-- What an index's bytes tell makes just these bytes. -/
theorem open_make {b : List UInt8} (h : opE b = 0) : mkE (plsB b) = 0 ∧ mkB (plsB b) (ofR (midB b) (nB b)) = b := by
  obtain ⟨h1, h2, h3, h4, h5⟩ := opE_ok h
  obtain ⟨hs, hd⟩ := sorted_ris (s := plsB b) (by rw [idsP_plsB]; exact h3)
  have hb : badS (plsB b) = false := by
    rw [badS, List.any_eq_false]
    intro p hp
    obtain ⟨k, hk, rfl⟩ := List.mem_map.1 hp
    have := h5 k (List.mem_range.1 hk)
    simp
    omega
  obtain ⟨e0, e1⟩ := mk_ok (List.Perm.refl (plsB b)) hs hd hb
  refine ⟨e0, ?_⟩
  have hsum : sumL (b.take (b.length - 32)) = b.drop (b.length - 32) := of_decide_eq_true h2
  rw [mkB, if_pos e0, ← e1, fileI, back_body h, hsum, List.take_append_drop]
theorem mk_props {l : List Pl} (h : mkE l = 0) : dupS (srtP l) = false ∧ badS (srtP l) = false := by
  unfold mkE at h
  split at h
  · cases h
  split at h
  · cases h
  · rename_i h1 h2; exact ⟨by simpa using h1, by simpa using h2⟩
theorem srt_ris {l : List Pl} (h : mkE l = 0) : ris (idsP (srtP l)) := fun i j hij hj => by
  rw [idsP_len] at hj
  rw [idsP_gt _ _ (by omega), idsP_gt _ _ hj]
  exact rising_of (srtP_sorted l) (mk_props h).1 hij hj
/-- What the bytes of places that were made tell. -/
theorem make_open {l : List Pl} {of : Nat} (hn : l.length ≤ 600) (hok : ∀ p ∈ l, p.Ok) (hof : of < big) (h : mkE l = 0) :
    nB (mkB l of) = l.length ∧ opE (mkB l of) = 0 ∧ ofR (midB (mkB l of)) l.length = of ∧ plsB (mkB l of) = srtP l := by
  have hB : mkB l of = fileI (srtP l) of := if_pos h
  have hm : ∀ p ∈ srtP l, p.Ok := fun p hp => hok p ((srtP_perm l).mem_iff.1 hp)
  have hbad := (mk_props h).2
  rw [badS, List.any_eq_false] at hbad
  obtain ⟨h1, h2, h3, h4, h5⟩ := file_props (srtP l) of (by rw [srtP_len]; exact hn) (fun p hp => (hm p hp).id) (fun p hp => ⟨(hm p hp).s0, (hm p hp).s1⟩) (fun p hp => by have := hbad p hp; simp at this; exact this) (srt_ris h) hof
  rw [srtP_len] at h1 h3 h4
  rw [hB]
  obtain ⟨F, hF⟩ : ∃ F, fileI (srtP l) of = F := ⟨_, rfl⟩
  rw [hF] at h1 h2 h3 h4 ⊢
  clear hF hB h5
  refine ⟨h1, h2, h4, ?_⟩
  apply List.ext_getElem
  · rw [plsB_len, h1, srtP_len]
  · intro k k1 k2
    have hk : k < l.length := by rwa [plsB_len, h1] at k1
    obtain ⟨e1, e2, e3⟩ := h3 k hk
    have e0 := plsB_at F k (by rw [h1]; exact hk)
    rw [getElem!_pos _ k k1] at e0
    have e4 : (srtP l)[k] = (srtP l)[k]! := (getElem!_pos _ k k2).symm
    rw [e0, e4, h1, e1, e2, e3]
theorem has_gt {ns : List Nat} (hr : ris ns) {j : Nat} (hj : j < ns.length) : posN ns (gt ns j) = j ∧ hasN ns (gt ns j) = true := by
  have h : posN ns (gt ns j) = j := pos_unique ns _ j (by omega) (fun i hi => hr i j hi hj) (fun _ => Nat.le_refl _)
  refine ⟨h, ?_⟩
  unfold hasN
  rw [h]
  exact decide_eq_true ⟨hj, rfl⟩
/-- The place of an id in what bytes tell. -/
def fndB (b : List UInt8) (x : Nat) : Pl := if hasN (idsB b) x = true then (plsB b)[posN (idsB b) x]! else ⟨0, 0, 0⟩
theorem fnd_made {l : List Pl} {of : Nat} (hn : l.length ≤ 600) (hok : ∀ p ∈ l, p.Ok) (hof : of < big) (h : mkE l = 0) {p : Pl} (hp : p ∈ l) :
    hasN (idsB (mkB l of)) p.id = true ∧ fndB (mkB l of) p.id = p := by
  obtain ⟨h1, h2, h3, h4⟩ := make_open hn hok hof h
  have hi : idsB (mkB l of) = idsP (srtP l) := by rw [← idsP_plsB, h4]
  obtain ⟨j, hj, e⟩ := List.getElem_of_mem ((srtP_perm l).mem_iff.2 hp)
  have hg : gt (idsP (srtP l)) j = p.id := by rw [idsP_gt _ _ hj, getElem!_pos _ j hj, e]
  have hh := has_gt (srt_ris h) (j := j) (by rw [idsP_len]; exact hj)
  rw [hg] at hh
  refine ⟨by rw [hi]; exact hh.2, ?_⟩
  unfold fndB
  rw [hi, if_pos hh.2, hh.1, h4, getElem!_pos _ j hj, e]
theorem fnd_ok (b : List UInt8) (x : Nat) : (fndB b x).Ok := by
  unfold fndB
  split
  · rename_i h
    have := (of_decide_eq_true h).1
    rw [idsB_len] at this
    rw [getElem!_pos _ _ (by rw [plsB_len]; exact this)]
    exact plsB_ok b _ (List.getElem_mem _)
  · exact ⟨Nat.pow_pos (by decide), by show (-9223372036854775808 : Int) ≤ 0; omega, by show (0 : Int) ≤ 9223372036854775807; omega, Int.le_refl _, by show (0 : Int) < 4294967296; omega⟩
/-- Find of an index that bytes told. -/
theorem IFind_b (b : List UInt8) (ho : opE b = 0) (x : Nat) (hx : x < big) (X : Nat) (A1 A2 A3 : Option Addr) (c1 c2 c3 of : Nat) (w : World)
    (h : IX w X (nB b) A1 c1 A2 c2 A3 c3 (fanR (midB b)) (keyR (midB b)) (smR (midB b) (nB b)) (atR (midB b) (nB b)) of) :
    Calls Tryz.prog 9 #[.pointer (some ⟨X, 0, none⟩), .agg (idC (dgt x))] w fun e w' => e = .returned (.tuple #[.agg (fndB b x).cells, .bool (hasN (idsB b) x)]) ∧ Fr (fun _ => False) w w' := by
  obtain ⟨h1, h2, h3, h4, h5⟩ := opE_ok ho
  obtain ⟨-, hl, hn, hw, hu⟩ := cnt_ok h1
  have hfa := find_at (n := nB b) (f := fanR (midB b)) (ks := keyR (midB b)) h3 (idsB_big b) h4 x hx
  have hb0 := b0_lt x
  have hle1 : loF (fanR (midB b)) (b0 x) ≤ fanR (midB b) (b0 x) := by rw [loF_congr h4 _ hb0, h4 _ hb0]; exact lo_le _
  have hle2 : fanR (midB b) (b0 x) ≤ nB b := by rw [h4 _ hb0]; have := fanN_le (idsB b) (b0 x); rwa [idsB_len] at this
  have hf := IFind_any X (nB b) A1 A2 A3 c1 c2 c3 (fanR (midB b)) (keyR (midB b)) (smR (midB b) (nB b)) (atR (midB b) (nB b)) of x (by omega) (fun j _ => u4_lt _ _) hx (idsB_big b) h3 hle1 hle2 w h
  have hh : fhsI (nB b) (fanR (midB b)) (keyR (midB b)) x = hasN (idsB b) x := hfa.1
  have hp : fndI (nB b) (fanR (midB b)) (keyR (midB b)) (smR (midB b) (nB b)) (atR (midB b) (nB b)) x = fndB b x := by
    unfold fhsI at hh
    unfold fndI fndB
    rw [hh]
    by_cases hc : hasN (idsB b) x = true
    · rw [if_pos hc, if_pos hc, hfa.2 hc]
      have hlt := (of_decide_eq_true hc).1
      rw [idsB_len] at hlt
      show atI (nB b) (keyR (midB b)) (smR (midB b) (nB b)) (atR (midB b) (nB b)) (posN (idsB b) x : Nat) = _
      rw [plsB_at b _ hlt]
      unfold atI
      rw [if_pos ⟨by omega, by omega⟩]
      simp
    · rw [if_neg hc, if_neg hc]
  rw [hh, hp] at hf
  exact hf
end Go.Proofs.YtgbhdjncccmabaaGreatDoor
/- What is proved: the law's own example: an index of one place. Conditions: the table of the sums lies as its text lays it. -/
namespace Go.Proofs.YtgbhdjncccmabaaGreatDoor
open Go.RowKit
set_option linter.unusedVariables false

def id7 : Nat := 7 * 16 ^ 62
def id1 : Nat := 16 ^ 62
def pl7 : Pl := ⟨id7, 12, 5⟩
def arr7 (k : Int) : Array Value := #[.int .u8 k, .int .u8 0, .int .u8 0, .int .u8 0, .int .u8 0, .int .u8 0, .int .u8 0, .int .u8 0, .int .u8 0, .int .u8 0, .int .u8 0, .int .u8 0, .int .u8 0, .int .u8 0, .int .u8 0, .int .u8 0, .int .u8 0, .int .u8 0, .int .u8 0, .int .u8 0, .int .u8 0, .int .u8 0, .int .u8 0, .int .u8 0, .int .u8 0, .int .u8 0, .int .u8 0, .int .u8 0, .int .u8 0, .int .u8 0, .int .u8 0, .int .u8 0]
theorem arr_7 : idC (dgt id7) = arr7 7 := by kernel_rfl
theorem arr_1 : idC (dgt id1) = arr7 1 := by kernel_rfl
theorem id7_big : id7 < big := by decide
theorem id1_big : id1 < big := by decide
theorem srt_one1 (p : Pl) : srtP [p] = [p] := rfl
theorem mkE_one (p : Pl) (h : 0 ≤ p.pos ∧ p.pos ≤ 1048576) : mkE [p] = 0 := by
  unfold mkE
  rw [srt_one1, if_neg (by rw [dupS_iff]; rintro ⟨k, hk, _⟩; simp at hk), if_neg (by unfold badS; simp; omega)]
theorem mkB_one (p : Pl) (of : Nat) (h : 0 ≤ p.pos ∧ p.pos ≤ 1048576) : mkB [p] of = fileI [p] of := by unfold mkB; rw [if_pos (mkE_one p h), srt_one1]
theorem ris_one (x : Nat) : ris [x] := fun i j hij hj => by simp at hj; omega

def lit7 : Array Value := #[.int .u8 7, .int .u8 0, .int .u8 0, .int .u8 0, .int .u8 0, .int .u8 0, .int .u8 0, .int .u8 0, .int .u8 0, .int .u8 0, .int .u8 0, .int .u8 0, .int .u8 0, .int .u8 0, .int .u8 0, .int .u8 0, .int .u8 0, .int .u8 0, .int .u8 0, .int .u8 0, .int .u8 0, .int .u8 0, .int .u8 0, .int .u8 0, .int .u8 0, .int .u8 0, .int .u8 0, .int .u8 0, .int .u8 0, .int .u8 0, .int .u8 0, .int .u8 0, .int .i64 12, .int .u32 5]
theorem pl_7 : pl7.cells = lit7 := by kernel_rfl
theorem ok_7 : pl7.Ok := ⟨id7_big, by decide, by decide, by decide, by decide⟩
theorem u4_small (b : List UInt8) (p : Nat) : u4 b p < 4294967296 := u4_lt b p
theorem has_7 : posN [id7] id7 = 0 ∧ hasN [id7] id7 = true := by
  have h : posN [id7] id7 = 0 := pos_unique [id7] id7 0 (Nat.zero_le _) (fun i hi => by omega) (fun _ => Nat.le_refl _)
  refine ⟨h, ?_⟩
  unfold hasN
  rw [h]
  exact decide_eq_true ⟨by decide, rfl⟩
/-- What the example's index has. -/
theorem file_7 : (fileI [pl7] id1).length = 1136 ∧ nB (fileI [pl7] id1) = 1 ∧ opE (fileI [pl7] id1) = 0 ∧ ofR (midB (fileI [pl7] id1)) 1 = id1 ∧ keyL 1 (keyR (midB (fileI [pl7] id1))) = [id7] ∧
    (∀ c, c < 256 → fanR (midB (fileI [pl7] id1)) c = fanN (keyL 1 (keyR (midB (fileI [pl7] id1)))) c) ∧ smR (midB (fileI [pl7] id1)) 1 0 = 5 ∧ atR (midB (fileI [pl7] id1)) 1 0 = 12 := by
  obtain ⟨h1, h2, h3, h4, h5⟩ := file_props [pl7] id1 (by decide) (fun p hp => by rw [List.mem_singleton.1 hp]; exact id7_big) (fun p hp => by rw [List.mem_singleton.1 hp]; decide) (fun p hp => by rw [List.mem_singleton.1 hp]; decide) (ris_one _) id1_big
  obtain ⟨k1, k2, k3⟩ := h3 0 (by decide)
  have hk : keyL 1 (keyR (midB (fileI [pl7] id1))) = [id7] := by
    unfold keyL
    rw [show List.range 1 = [0] from rfl, List.map_singleton, k1]
    rfl
  refine ⟨by rw [fileI_len]; rfl, h1, h2, h4, hk, fun c hc => by rw [h5 c hc, hk]; rfl, ?_, ?_⟩
  · have : (([pl7] : List Pl)[0]!).sm = 5 := rfl
    rw [this] at k2
    have k4 : ((smR (midB (fileI [pl7] id1)) 1 0 : Nat) : Int) = 5 := k2
    omega
  · have : (([pl7] : List Pl)[0]!).pos = 12 := rfl
    rw [this] at k3
    have k4 : ((atR (midB (fileI [pl7] id1)) 1 0 : Nat) : Int) = 12 := k3
    omega

set_option maxHeartbeats 3200000 in
set_option maxRecDepth 100000 in
theorem Iworks_any (w : World) (ht : Tab w) : Calls Tryz.prog 4 #[] w fun e w' => e = .returned (.bool true) ∧ Fr (fun _ => False) w w' := by
  obtain ⟨w1, hw1⟩ : ∃ w1, w.alloc (.cells lit7 43) = w1 := ⟨_, rfl⟩
  have hF1 : Fr (fun _ => False) w w1 := by subst hw1; exact (Fr.refl _ w).alloc _
  have hL1 : Lies w1 (some ⟨w.heap.size, 0, none⟩) (flatP [pl7]) := by
    subst hw1
    rw [flatP_single, pl_7]
    exact (Whole.new w 43 lit7).lies
  obtain ⟨f1, f2, f3, f4, f5, f6, f7, f8⟩ := file_7
  have HMK := Lib.hid (IMake_any (some ⟨w.heap.size, 0, none⟩) 1 [pl7] id1 (by decide) (fun p hp => by rw [List.mem_singleton.1 hp]; exact ok_7) w1 hL1 (ht.fr hF1 (fun e => e)))
  unfold MkPost at HMK
  rw [mkE_one pl7 (by decide), mkB_one pl7 id1 (by decide), arr_1, f1, show ([pl7] : List Pl).length = 1 from rfl] at HMK
  have HOP := Lib.hid (fun (w' : World) (f : Fr (fun _ => False) w w') A c (hc : 1136 ≤ c) (hl : Lies w' A (bytesV (fileI [pl7] id1))) => IOpen_any A c (fileI [pl7] id1) (by rw [f1]; exact hc) (by rw [f1]; decide) w' hl (ht.fr f (fun e => e)))
  unfold OpPost at HOP
  rw [f1, f2, f3, f4] at HOP
  have hfa := find_at (n := 1) (f := fanR (midB (fileI [pl7] id1))) (ks := keyR (midB (fileI [pl7] id1))) (by rw [f5]; exact ris_one _) (by rw [f5]; intro m hm; rw [List.mem_singleton.1 hm]; exact id7_big) f6 id7 id7_big
  have hb0 := b0_lt id7
  have hle1 : loF (fanR (midB (fileI [pl7] id1))) (b0 id7) ≤ fanR (midB (fileI [pl7] id1)) (b0 id7) := by rw [loF_congr f6 _ hb0, f6 _ hb0]; exact lo_le _
  have hle2 : fanR (midB (fileI [pl7] id1)) (b0 id7) ≤ 1 := by rw [f6 _ hb0]; have := fanN_le (keyL 1 (keyR (midB (fileI [pl7] id1)))) (b0 id7); rwa [keyL_len] at this
  have HFI := Lib.hid (fun (w' : World) X A1 c1 A2 c2 A3 c3 (h' : IX w' X 1 A1 c1 A2 c2 A3 c3 (fanR (midB (fileI [pl7] id1))) (keyR (midB (fileI [pl7] id1))) (smR (midB (fileI [pl7] id1)) 1) (atR (midB (fileI [pl7] id1)) 1) id1) =>
    IFind_any X 1 A1 A2 A3 c1 c2 c3 (fanR (midB (fileI [pl7] id1))) (keyR (midB (fileI [pl7] id1))) (smR (midB (fileI [pl7] id1)) 1) (atR (midB (fileI [pl7] id1)) 1) id1 id7 (by decide) (fun j _ => u4_small _ _) id7_big (by rw [f5]; intro m hm; rw [List.mem_singleton.1 hm]; exact id7_big) (by rw [f5]; exact ris_one _) hle1 hle2 w' h')
  have hk0 : keyR (midB (fileI [pl7] id1)) 0 = id7 := by have := keyL_gt 1 (keyR (midB (fileI [pl7] id1))) 0 (by decide); rw [f5] at this; exact this.symm
  rw [f5] at hfa
  have hfh : fhsI 1 (fanR (midB (fileI [pl7] id1))) (keyR (midB (fileI [pl7] id1))) id7 = true := by rw [hfa.1]; exact has_7.2
  have hfn : fndI 1 (fanR (midB (fileI [pl7] id1))) (keyR (midB (fileI [pl7] id1))) (smR (midB (fileI [pl7] id1)) 1) (atR (midB (fileI [pl7] id1)) 1) id7 = pl7 := by
    have h1 := hfa.2 has_7.2
    rw [has_7.1] at h1
    unfold fndI
    unfold fhsI at hfh
    rw [if_pos hfh, f5, h1]
    unfold atI
    rw [if_pos (by decide)]
    show (⟨keyR (midB (fileI [pl7] id1)) 0, (atR (midB (fileI [pl7] id1)) 1 0 : Nat), (smR (midB (fileI [pl7] id1)) 1 0 : Nat)⟩ : Pl) = pl7
    rw [hk0, f7, f8]; rfl
  rw [hfh, hfn, pl_7, arr_7] at HFI
  have HLE := Lib.hid (fun (w' : World) X A1 c1 A2 c2 A3 c3 f ks ss ts (h' : IX w' X 1 A1 c1 A2 c2 A3 c3 f ks ss ts id1) => ILen_any X 1 A1 A2 A3 c1 c2 c3 f ks ss ts id1 w' h')
  have HOF := Lib.hid (fun (w' : World) X A1 c1 A2 c2 A3 c3 f ks ss ts (h' : IX w' X 1 A1 c1 A2 c2 A3 c3 f ks ss ts id1) => IOf_any X 1 A1 A2 A3 c1 c2 c3 f ks ss ts id1 w' h')
  have hcc := fun w => eq_nums id1 id1 id1_big id1_big w
  rw [arr_1] at HOF hcc
  rw [show (id1 == id1) = true from by simp] at hcc
  have HF1 := Lib.hid hF1
  have hFB : Hid ((fileI [pl7] id1).length = 1136) := Lib.hid f1
  obtain ⟨FB, hFBd⟩ : ∃ F, fileI [pl7] id1 = F := ⟨_, rfl⟩
  rw [hFBd] at HMK HOP HFI hFB
  unfold arr7 at HMK HFI HOF hcc
  unfold lit7 at hw1
  have HPS : Hid (lit7.size = 34) := Lib.hid rfl
  have HPO := Lib.hid (plC_one pl7)
  rw [pl_7] at HPO
  have HP32 : Hid (lit7[32]? = some (.int .i64 12)) := Lib.hid rfl
  obtain ⟨pc, hpc⟩ : ∃ c, lit7 = c := ⟨_, rfl⟩
  rw [hpc] at HFI HPS HPO HP32
  clear hpc
  clear f1 f2 f3 f4 f5 f6 f7 f8 hfa hle1 hle2 hfh hfn hk0 hFBd hL1 hF1 hb0 ht
  go_enter Tryz.func4, Tryz.ntmps4
  go_upto_region 2 with (go_at_call 15; refine HMK.out.mono ?_; rintro e w2 ⟨v, rfl, o2, f2⟩; obtain ⟨A2, c2, hv2, hk2, -⟩ := own_slice o2; subst hv2; have HL2 := Lib.hid (Lies.of_own o2); have HK2 := Lib.hid hk2; have HF2 := Lib.hid (HF1.out.trans f2 (fun _ _ e => e)); clear o2 f2 hk2)
  go_upto_region 3 with (go_at_call 7; refine (HOP.out _ HF2.out _ _ HK2.out HL2.out).mono ?_; rintro e w3 ⟨f3, ⟨h0, -⟩ | ⟨-, X, g1, g2, g3, rfl, hx⟩⟩; exact absurd rfl h0; have HX3 := Lib.hid hx.ix; have HF3 := Lib.hid (HF2.out.trans f3 (fun _ _ e => e)); clear f3 hx)
  go_upto_region 4 with (first
    | (go_at_call 9
       refine (HFI.out _ _ _ _ _ _ _ _ HX3.out).mono ?_
       rintro e w4 ⟨rfl, f4⟩
       have HX4 := Lib.hid (HX3.out.fr f4)
       have HF4 := Lib.hid (HF3.out.trans f4 (fun _ _ e => e))
       clear f4
       obtain ⟨w5, hw5⟩ : ∃ w5, w4.alloc (.cells zeroPl 43) = w5 := ⟨_, rfl⟩
       have HZ5 := Lib.hid (show Whole w5 w4.heap.size 43 zeroPl from by subst hw5; exact Whole.new w4 43 zeroPl)
       have HA5 := Lib.hid (show Fr (fun _ => False) w4 w5 from by subst hw5; exact (Fr.refl _ w4).alloc _)
       unfold zeroPl at hw5
       simp [List.replicate] at hw5)
    | (refine wpList_store_at rfl 43 _ _ rfl w4.heap.size 0 43 zeroPl pc rfl rfl HZ5.out (by rw [HPS.out]; decide) (by rw [HPS.out]; exact size_pl) HPO.out ?_
       intro w6 hw6 hf6
       rw [laidAt_all _ _ (by rw [HPS.out]; rfl)] at hw6
       have c32 : w6.cell? ⟨w4.heap.size, 32, none⟩ = some (.int .i64 12) := (by rw [hw6.cell]; exact HP32.out)
       have hf46 := HA5.out.trans hf6 (fun i hi e => by omega)
       have HX5 := Lib.hid (HX4.out.fr hf46)
       have HF5 := Lib.hid (HF4.out.trans hf46 (fun _ _ e => e))
       clear hw6 hf6 hf46))
  go_wp2_with (first
    | (go_at_call 16; refine (HLE.out _ _ _ _ _ _ _ _ _ _ _ _ HX5.out).mono ?_; rintro e w7 ⟨rfl, rfl⟩)
    | (go_at_call 17; refine (HOF.out _ _ _ _ _ _ _ _ _ _ _ _ HX5.out).mono ?_; rintro e w8 ⟨rfl, f6⟩; have HF6 := Lib.hid (HF5.out.trans f6 (fun _ _ e => e)); clear f6))
  go_ret
  exact ⟨rfl, HF6.out⟩
end Go.Proofs.YtgbhdjncccmabaaGreatDoor

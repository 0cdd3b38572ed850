/- What is proved: whether two of a list's entries have one name, whether entries stand in order; by the program, and plain. Conditions: the list's cells are there. -/
import Derived.Test.YtcbgpbcfpeanjaaTrj
namespace Go.Proofs.Ytcbgpbcfpeanjaa
open Go.RowKit Go.Sort Go.Shelf
set_option linter.unusedVariables false

/-! Plain. -/
/-- Two of one name. -/
def twB (es : List Ent) : Bool := !decide ((es.map Ent.name).Nodup)
theorem twB_perm {a b : List Ent} (h : a.Perm b) : twB a = twB b := by
  rw [twB, twB, Bool.eq_iff_iff]
  simp [(h.map Ent.name).nodup_iff]
theorem twB_at {es : List Ent} {j k : Nat} (h1 : j < k) (h2 : k < es.length) (h : es[j]!.name = es[k]!.name) : twB es = true := by
  rw [twB, Bool.not_eq_true', decide_eq_false_iff_not]
  intro hn
  have := List.pairwise_iff_getElem.1 hn j k (by simp; omega) (by simpa using h2) h1
  rw [getElem!_pos es j (by omega), getElem!_pos es k h2] at h
  simp [h] at this
theorem twB_none {es : List Ent} (h : ∀ j k, j < k → k < es.length → es[j]!.name ≠ es[k]!.name) : twB es = false := by
  rw [twB, Bool.not_eq_false', decide_eq_true_eq]
  refine List.pairwise_iff_getElem.2 (fun i j hi hj hij e => ?_)
  have hi2 : i < es.length := by simpa using hi
  have hj2 : j < es.length := by simpa using hj
  refine h i j hij hj2 ?_
  rw [getElem!_pos es i hi2, getElem!_pos es j hj2]
  simpa using e
theorem srt_sorted (cf : Ent → Ent → Int) (hO : SWO (ltOf (cfN cf))) (es : List Ent) : ∀ i j, i < j → j < es.length → ltOf cf (srt (ltOf cf) es)[j]! (srt (ltOf cf) es)[i]! = false := by
  have h := srt_St hO (ix := (·.2)) es.zipIdx (by
    rw [List.pairwise_iff_getElem]
    intro i j hi hj hij
    simp [List.getElem_zipIdx]
    exact hij)
  have e2 : ltOf (cfN cf) = fun a b : EntN => ltOf cf a.1 b.1 := rfl
  rw [e2] at h
  have hm := srt_map (ltOf cf) es.zipIdx
  rw [List.zipIdx_map_fst] at hm
  intro i j hij hj
  rw [← hm, map_get!, map_get!]
  have hl : (srt (fun a b : EntN => ltOf cf a.1 b.1) es.zipIdx).length = es.length := by rw [srt_len, List.length_zipIdx]
  have hp := List.pairwise_iff_getElem.1 h i j (by omega) (by omega) hij
  rw [getElem!_pos _ i (by omega), getElem!_pos _ j (by omega)]
  rcases hp with hp | hp
  · cases hq : ltOf cf (srt (fun a b : EntN => ltOf cf a.1 b.1) es.zipIdx)[j].1 (srt (fun a b : EntN => ltOf cf a.1 b.1) es.zipIdx)[i].1 with
    | false => rfl
    | true =>
      have := hO.trans _ _ _ hp hq
      rw [hO.irrefl] at this
      cases this
  · exact hp.1
/-- By names in order: no two neighbours of one name, no two at all. -/
theorem twB_next (es : List Ent) (h : ∀ k, k + 1 < es.length → (srt (ltOf nameCmp) es)[k]!.name ≠ (srt (ltOf nameCmp) es)[k + 1]!.name) : twB es = false := by
  rw [← twB_perm (srt_perm (ltOf nameCmp) es)]
  have hs := srt_sorted nameCmp swo_names es
  have hl := srt_len (ltOf nameCmp) es
  generalize srt (ltOf nameCmp) es = rs at h hs hl
  have h1 : ∀ k, k + 1 < es.length → ltB rs[k]!.name rs[k + 1]!.name = true := fun k hk => by
    have := hs k (k + 1) (by omega) hk
    rw [ltOf_name] at this
    cases hq : ltB rs[k]!.name rs[k + 1]!.name with
    | true => rfl
    | false => exact absurd (ltB_total _ _ hq this) (h k hk)
  have h2 : ∀ n j, j + (n + 1) < es.length → ltB rs[j]!.name rs[j + (n + 1)]!.name = true := by
    intro n
    induction n with
    | zero => intro j hj; exact h1 j hj
    | succ n ih => intro j hj; exact ltB_trans _ _ _ (ih j (by omega)) (h1 (j + (n + 1)) (by omega))
  refine twB_none (fun j k hjk hk e => ?_)
  have := h2 (k - j - 1) j (by omega)
  rw [show j + (k - j - 1 + 1) = k by omega, e, ltB_irrefl] at this
  cases this

/-- The first n keys rise strictly. -/
def risB (es : List Ent) : Bool := (List.range (es.length - 1)).all fun k => ltB (keyE es[k]!) (keyE es[k + 1]!)
theorem risB_iff (es : List Ent) : risB es = true ↔ ∀ k, k + 1 < es.length → ltB (keyE es[k]!) (keyE es[k + 1]!) = true := by
  rw [risB, List.all_eq_true]
  exact ⟨fun h k hk => h k (by rw [List.mem_range]; omega), fun h k hk => h k (by rw [List.mem_range] at hk; omega)⟩
/-- None stands ahead of the one before it. -/
def isrB (es : List Ent) : Bool := (List.range (es.length - 1)).all fun k => !ltB (keyE es[k + 1]!) (keyE es[k]!)
theorem isrB_iff (es : List Ent) : isrB es = true ↔ ∀ k, k + 1 < es.length → ltB (keyE es[k + 1]!) (keyE es[k]!) = false := by
  rw [isrB, List.all_eq_true]
  exact ⟨fun h k hk => by simpa using h k (by rw [List.mem_range]; omega), fun h k hk => by simpa using h k (by rw [List.mem_range] at hk; omega)⟩
/-- Names have no stroke, so of no two names no two keys. -/
theorem key_name {a b : Ent} (ha : nameB a.name = true) (hb : nameB b.name = true) (h : keyE a = keyE b) : a.name = b.name := by
  have nb : ∀ {e : Ent}, nameB e.name = true → e.name.contains 47 = false := fun {e} he => by
    rw [name_eq _ _ rfl] at he
    simp only [Bool.and_eq_true, Bool.not_eq_true'] at he
    exact he.1.1.2
  have h47 : ∀ (x y : List UInt8), y.contains 47 = false → x ++ [47] ≠ y := fun x y hy e => by
    rw [← e] at hy
    simp at hy
  unfold keyE at h
  split at h <;> split at h
  · exact List.append_cancel_right h
  · exact absurd h (h47 _ _ (nb hb))
  · exact absurd h.symm (h47 _ _ (nb ha))
  · exact h
/-- The first that is wrong with an entry, going from the first on. -/
def firstBad : List Ent → Int
  | [] => 0
  | e :: r => if modeB e.mode = false then 16 else if nameB e.name = false then 15 else firstBad r
theorem firstBad_ok : ∀ (es : List Ent), firstBad es = 0 → ∀ e ∈ es, modeB e.mode = true ∧ nameB e.name = true
  | [], _, e, he => by cases he
  | x :: r, h, e, he => by
    rw [firstBad] at h
    cases h1 : modeB x.mode with
    | false => rw [h1, if_pos rfl] at h; cases h
    | true =>
      rw [h1, if_neg (by simp)] at h
      cases h2 : nameB x.name with
      | false => rw [h2, if_pos rfl] at h; cases h
      | true =>
        rw [h2, if_neg (by simp)] at h
        rcases List.mem_cons.1 he with rfl | he
        · exact ⟨h1, h2⟩
        · exact firstBad_ok r h e he
theorem ris_isr (es : List Ent) (h0 : firstBad es = 0) (h1 : twB es = false) : risB es = isrB es := by
  rw [Bool.eq_iff_iff, risB_iff, isrB_iff]
  constructor
  · exact fun h k hk => ltB_asymm _ _ (h k hk)
  · intro h k hk
    cases hq : ltB (keyE es[k]!) (keyE es[k + 1]!) with
    | true => rfl
    | false =>
      have hk1 := ltB_total _ _ hq (h k hk)
      have m1 := (firstBad_ok es h0 es[k]! (by rw [getElem!_pos es k (by omega)]; exact List.getElem_mem _)).2
      have m2 := (firstBad_ok es h0 es[k + 1]! (by rw [getElem!_pos es (k + 1) hk]; exact List.getElem_mem _)).2
      have := twB_at (es := es) (j := k) (k := k + 1) (by omega) hk (key_name m1 m2 hk1)
      rw [h1] at this
      cases this
/-- Whether entries may be a tree. -/
def chk (es : List Ent) : Int := if 64 < es.length then 3 else if firstBad es = 0 then (if twB es = true then 17 else if isrB es = true then 0 else 18) else firstBad es

set_option maxHeartbeats 3200000 in
theorem Ttwice_any (A : Option Addr) (cap : Nat) (es : List Ent) (hn : es.length ≤ 100000) (w : World) (h : Lies w A (flatE es)) :
    Calls Try.prog 27 #[.slice A es.length cap] w fun e w' => e = .returned (.bool (twB es)) ∧ Below w.heap.size w w' := by
  have hc := Lib.hid (TbyName_any A cap es hn w h)
  have HE := Lib.hid (twB_next es)
  have HA := Lib.hid (fun k (hk : k + 1 < es.length) (e : (srt (ltOf nameCmp) es)[k]!.name = (srt (ltOf nameCmp) es)[k + 1]!.name) => (twB_perm (srt_perm (ltOf nameCmp) es)).symm.trans (twB_at (j := k) (k := k + 1) (by omega) (by rw [srt_len]; exact hk) e))
  have HLS := Lib.hid (srt_len (ltOf nameCmp) es)
  obtain ⟨rs, hrs⟩ : ∃ rs, srt (ltOf nameCmp) es = rs := ⟨_, rfl⟩
  obtain ⟨r, hr⟩ : ∃ r, twB es = r := ⟨_, rfl⟩
  obtain ⟨L, hL⟩ : ∃ L, es.length = L := ⟨_, rfl⟩
  rw [hrs] at hc HE HA HLS
  rw [hr] at HE HA ⊢
  rw [hL] at hc HE HA HLS hn ⊢
  clear h hrs hr hL
  go_enter Try.func27, Try.ntmps27
  go_wp2_with (go_at_call 38; refine hc.out.mono ?_; rintro e w1 ⟨v, rfl, ho⟩)
  obtain ⟨B, c1, hv, hlc, hcm, hli, hfr⟩ := ho.slice
  rw [HLS.out] at hv
  subst hv
  have HLI := Lib.hid hli
  have HF := Lib.hid hfr
  clear ho hlc hcm hli hfr
  go_wp2
  go_loopg [4] L (fun kx s4 wr => ∃ k : Nat, s4 = .int .i64 ((k : Int) + 1) ∧ k ≤ L ∧ L - k ≤ kx ∧ Fr (fun _ => False) w1 wr ∧ Hid (∀ j, j < k → j + 1 < L → rs[j]!.name ≠ rs[j + 1]!.name))
  case atStart => exact ⟨0, rfl, by omega, by omega, Fr.refl _ _, Lib.hid (fun j hj => by omega)⟩
  case round =>
    obtain ⟨k, rfl, hk, hkx, hf, HN⟩ := hrel
    obtain ⟨wo, rfl⟩ : ∃ wo, wo = wr := ⟨wr, rfl⟩
    have HFr := Lib.hid hf
    clear hf
    have wk := wrap_nat k (by omega)
    have wk1 := wrap_nat1 k (by omega)
    have tn1 := toNat_nat1 k
    have nn1 := nonneg_nat1 k
    by_cases hlt : k + 1 < L
    · obtain ⟨b, o, hB⟩ := HLI.out.someE (by rw [HLS.out]; omega)
      subst hB
      have c1' : ∀ q : Later wo, q.w'.cell? ⟨b, o + k * 34, none⟩ = some (.string (strB rs[k]!.name)) := fun q => name_at HLI.out (some_of_mem (by rw [HLS.out]; omega)) (HFr.out.trans q.fr (fun _ _ e => e))
      have c2' : ∀ q : Later wo, q.w'.cell? ⟨b, o + (k + 1) * 34, none⟩ = some (.string (strB rs[k + 1]!.name)) := fun q => name_at HLI.out (some_of_mem (by rw [HLS.out]; omega)) (HFr.out.trans q.fr (fun _ _ e => e))
      have heq := str_eq rs[k]!.name rs[k + 1]!.name
      obtain ⟨S1, hS1⟩ : ∃ S, strB rs[k]!.name = S := ⟨_, rfl⟩
      obtain ⟨S2, hS2⟩ : ∃ S, strB rs[k + 1]!.name = S := ⟨_, rfl⟩
      rw [hS1] at c1' heq
      rw [hS2] at c2' heq
      clear hS1 hS2
      have hltz : (k : Int) + 1 < L := by omega
      have hkz : (k : Int) < L := by omega
      have hkn : (k : Int) + 1 - 1 = k := by omega
      cases hq : (rs[k]!.name == rs[k + 1]!.name) with
      | true =>
        rw [hq] at heq
        have HQ := Lib.hid hq
        clear hq
        go_wp2_with fail
        refine wp_region_later (w0 := wo) (Fr.refl _ _) (by kernel_rfl) (by kernel_rfl) ?_
        repeat (quiet_step (fail))
        refine wpQuiet_nil ?_
        intro _ hw'
        obtain ⟨q, hw''⟩ := hw'
        subst hw''
        go_wp2_with fail
        (try simp only [Exit.inBlock, Exit.then])
        go_ret
        exact ⟨by rw [HA.out k hlt (by simpa using HQ.out)]; rfl, ((HF.out.trans HFr.out (fun _ _ e => e)).trans q.fr (fun _ _ e => e)).below (fun _ _ e => e)⟩
      | false =>
        rw [hq] at heq
        have HQ := Lib.hid hq
        clear hq
        go_wp2_with fail
        refine wp_region_later (w0 := wo) (Fr.refl _ _) (by kernel_rfl) (by kernel_rfl) ?_
        repeat (quiet_step (fail))
        refine wpQuiet_nil ?_
        intro _ hw'
        obtain ⟨q, hw''⟩ := hw'
        subst hw''
        go_wp2_with fail
        go_roundg (L - (k + 1))
        case measure => omega
        case rel => exact ⟨k + 1, by go_num, by omega, Nat.le_refl _, HFr.out.trans q.fr (fun _ _ e => e), Lib.hid (fun j hj hj1 => by
          by_cases e : j = k
          · subst e; simpa using HQ.out
          · exact HN.out j (by omega) hj1)⟩
    · have hltz : ¬ ((k : Int) + 1 < L) := by omega
      go_wp2_with fail
      go_ret
      exact ⟨by rw [HE.out (fun j hj => HN.out j (by omega) hj)]; rfl, (HF.out.trans HFr.out (fun _ _ e => e)).below (fun _ _ e => e)⟩
end Go.Proofs.Ytcbgpbcfpeanjaa

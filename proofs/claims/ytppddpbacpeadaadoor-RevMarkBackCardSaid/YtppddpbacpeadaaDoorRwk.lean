/- What is proved: plainly: what a commit is put as is read as that commit; what is read as a commit is just what that one is put as. Conditions: none. -/
import Derived.Test.YtppddpbacpeadaaDoorRwj
import Derived.Test.YtppddpbacpeadaaDoorIdg
namespace Go.Proofs.YtppddpbacpeadaaDoor
open Go.RowKit Go.Sort Go.Shelf
open Ids (idC dgt big idC_size idC_get idC_one cellD zero32 size32 dgt_lt hexB nu)
set_option linter.unusedVariables false

/-! Lines. -/
theorem cut_line (x rest : List UInt8) (h : ∀ b ∈ x, b ≠ 10) : lnA (x ++ 10 :: rest) = x ∧ lnB (x ++ 10 :: rest) = rest ∧ has10 (x ++ 10 :: rest) = true := by
  rcases idx10_cases (x ++ 10 :: rest) with ⟨_, h1, _⟩ | ⟨m, _, hml, h0, h1, h2, h3, h4⟩
  · exact absurd rfl (h1 10 (by simp))
  · have hm : m = x.length := by
      rcases Nat.lt_trichotomy m x.length with hlt | he | hgt
      · exfalso
        have e : (x ++ 10 :: rest)[m]? = some 10 := by
          conv => lhs; rw [h0]
          rw [List.getElem?_append_right (by rw [List.length_take]; omega), List.length_take, show m - min m (x ++ 10 :: rest).length = 0 by omega]
          rfl
        rw [List.getElem?_append_left hlt] at e
        exact h 10 (List.mem_of_getElem? e) rfl
      · exact he
      · exfalso
        refine h1 10 ?_ rfl
        rw [List.mem_take_iff_getElem]
        refine ⟨x.length, by simp; omega, ?_⟩
        rw [List.getElem_append_right (Nat.le_refl _)]
        simp
    subst hm
    refine ⟨by rw [h3, List.take_left], by rw [h4, List.drop_append, List.drop_of_length_le (by omega), List.nil_append, show x.length + 1 - x.length = 1 by omega]; rfl, h2⟩
theorem takeL_line (word told rest : List UInt8) (hw : ∀ b ∈ word, b ≠ 10) (ht : ∀ b ∈ told, b ≠ 10) : takeL word (lineB word told ++ rest) = some (told, rest) := by
  have e : lineB word told ++ rest = (word ++ [32] ++ told) ++ 10 :: rest := by simp [lineB]
  rw [e]
  obtain ⟨h1, h2, h3⟩ := cut_line (word ++ [32] ++ told) rest (fun b hb => by
    rw [List.append_assoc, List.mem_append, List.mem_append, List.mem_singleton] at hb
    rcases hb with hb | hb | hb
    · exact hw b hb
    · subst hb; decide
    · exact ht b hb)
  rw [takeL_some (by rw [begW, List.isPrefixOf_iff_prefix]; exact ⟨told ++ 10 :: rest, by simp⟩) h3, h1, h2]
  congr 2
  rw [show word.length + 1 = (word ++ [32]).length by simp, List.drop_left]
theorem line_takeL {word s t r : List UInt8} (hw : ∀ b ∈ word, b ≠ 10) (h : takeL word s = some (t, r)) : s = lineB word t ++ r := by
  have hb1 : begW word s = true := by
    cases hx : begW word s with
    | true => rfl
    | false => rw [takeL_no hx] at h; cases h
  have hb2 : has10 s = true := by
    cases hx : has10 s with
    | true => rfl
    | false => rw [takeL_none hx] at h; cases h
  have hfit := word_fits hw hb1 hb2
  rw [takeL_some hb1 hb2] at h
  injection h with h
  injection h with h1 h2
  rcases idx10_cases s with ⟨_, _, hx, _⟩ | ⟨m, _, hml, h0, _, _, h3, h4⟩
  · rw [hx] at hb2; cases hb2
  · have hpre : begW word s = _ := pre_take (word ++ [32]) s
    rw [hb1] at hpre
    have hpre := hpre.symm
    rw [Bool.and_eq_true, beq_iff_eq] at hpre
    have hp := hpre.2
    rw [List.length_append, List.length_singleton] at hp
    rw [h3, List.length_take] at hfit
    have hk : (lnA s).take (word.length + 1) = word ++ [32] := by rw [h3, List.take_take, Nat.min_eq_left (by omega), hp]
    have hA : lnA s = (word ++ [32]) ++ t := by
      rw [← h1, ← hk]
      exact (List.take_append_drop _ _).symm
    rw [← h2, h4]
    conv => lhs; rw [h0, ← h3, hA]
    simp [lineB]
/-! Ids. -/
theorem readI_hex (T : Nat) (hT : T < big) : readI (hexI T) = some T := by
  have h := Ids.read_hex (dgt T) (dgt_lt T)
  have e : Ids.hexS (dgt T) = strB (hexI T) := rfl
  rw [e] at h
  rw [readI, if_pos h.1]
  have h2 := (Ids.idC_inj _ _ (rdA_lt _) (dgt_lt T)).1 h.2
  rw [nu, Ids.nuN_congr _ _ 64 h2]
  exact congrArg some (Ids.nu_dgt T hT)
theorem hex_readI {t : List UInt8} {n : Nat} (h : readI t = some n) : t = hexI n := by
  unfold readI at h
  split at h
  · rename_i h0
    injection h with h
    have h1 := Ids.hex_read (strB t) h0
    have e : Ids.hexS (Ids.rdA (strB t)) = strB (hexI n) := by
      have : hexB (Ids.rdA (strB t)) 64 = hexI n := by
        rw [hexI, hexB, hexB, ← h]
        exact List.map_congr_left (fun k hk => by rw [Ids.dgt_nu _ (rdA_lt _) k (List.mem_range.1 hk)])
      show strB _ = _
      rw [this]
    rw [e] at h1
    have := congrArg ByteArray.toList h1
    rw [strB_list, strB_list] at this
    exact this.symm
  · cases h
theorem figs_no10 : ∀ k, k < 16 → Ids.figs.getD k 0 ≠ 10 := by decide
theorem hexI_no10 (T : Nat) : ∀ b ∈ hexI T, b ≠ 10 := fun b hb => by
  obtain ⟨k, _, rfl⟩ := List.mem_map.1 hb
  exact figs_no10 _ (dgt_lt T k)
/-! Numbers. -/
theorem dec_ge {n : Nat} (h : ¬ n < 10) : Lib.decDigits n = Lib.decDigits (n / 10) ++ [UInt8.ofNat (48 + n % 10)] := by
  conv => lhs; rw [Lib.decDigits, dif_neg h]
theorem dig_c {d : Nat} (h : d < 10) : (UInt8.ofNat (48 + d)).toNat = 48 + d := by rw [UInt8.toNat_ofNat']; omega
theorem dec_props (n : Nat) : (Lib.decDigits n).all isDig = true ∧ valN (Lib.decDigits n) = n ∧ 1 ≤ (Lib.decDigits n).length ∧ (1 ≤ n → (Lib.decDigits n).getD 0 0 ≠ 48) ∧ ∀ k, 1 ≤ k → n < 10 ^ k → (Lib.decDigits n).length ≤ k := by
  induction n using Nat.strongRecOn with
  | _ n ih =>
    by_cases h : n < 10
    · rw [Lib.decDigits_one h]
      refine ⟨?_, ?_, Nat.le_refl _, fun h1 e => ?_, fun k hk _ => hk⟩
      · simp [isDig]; omega
      · simp [valN]; omega
      · have := congrArg UInt8.toNat e
        rw [show ([UInt8.ofNat (48 + n)] : List UInt8).getD 0 0 = UInt8.ofNat (48 + n) from rfl, dig_c h] at this
        have e2 : (48 : UInt8).toNat = 48 := rfl
        omega
    · obtain ⟨h1, h2, h3, h4, h5⟩ := ih (n / 10) (by omega)
      have hd : n % 10 < 10 := by omega
      rw [dec_ge h]
      refine ⟨?_, ?_, by simp, fun _ => ?_, fun k hk hn => ?_⟩
      · rw [List.all_append, h1]; simp [isDig]; omega
      · rw [valN_snoc, h2, dig_c hd]; omega
      · rw [List.getD_eq_getElem?_getD, List.getElem?_append_left (by omega), ← List.getD_eq_getElem?_getD]
        exact h4 (by omega)
      · rw [List.length_append, List.length_singleton]
        rcases k with _ | _ | k
        · omega
        · simp at hn; omega
        · have := h5 (k + 1) (by omega) (by rw [Nat.pow_succ] at hn; omega)
          omega
theorem readN_dec (n : Nat) (h : n < 1000000000000000) : readN (Lib.decDigits n) = some n := by
  obtain ⟨h1, h2, h3, h4, h5⟩ := dec_props n
  have hl := h5 15 (by decide) h
  have hb : badN (Lib.decDigits n) = false := badN_not h3 hl (fun hl2 => h4 (by
    apply Classical.byContradiction
    intro hn
    have := h5 1 (by decide) (by omega)
    omega))
  rw [readN, numW_ok hb h1, if_pos rfl, h2]
theorem dec_no10 (n : Nat) : ∀ b ∈ Lib.decDigits n, b ≠ 10 := fun b hb e => by
  have := List.all_eq_true.1 (dec_props n).1 b hb
  subst e
  revert this
  decide
theorem dec_val : ∀ (r : List UInt8) (t : List UInt8), t = r.reverse → t ≠ [] → t.all isDig = true → (1 < t.length → t.getD 0 0 ≠ 48) → Lib.decDigits (valN t) = t := by
  intro r
  induction r with
  | nil => intro t ht hne; exact absurd (by rw [ht]; rfl) hne
  | cons c r ih =>
    intro t ht hne ha hz
    rw [List.reverse_cons] at ht
    have hc : isDig c = true := List.all_eq_true.1 ha c (by rw [ht]; simp)
    have hcd := (isDig_iff c).1 hc
    have hcc : UInt8.ofNat (48 + (c.toNat - 48)) = c := by
      apply UInt8.toNat_inj.1
      rw [dig_c (by omega)]; omega
    rw [ht, valN_snoc]
    cases hr : r.reverse with
    | nil =>
      rw [show valN [] = 0 from rfl, Nat.mul_zero, Nat.zero_add, Lib.decDigits_one (by omega), hcc]
      rfl
    | cons d t' =>
      have hz2 : (r.reverse).getD 0 0 ≠ 48 := by
        have := hz (by rw [ht, hr]; simp)
        rw [ht, hr] at this
        rw [hr]
        exact this
      have hIH := ih r.reverse rfl (by rw [hr]; simp) (by rw [ht, List.all_append, Bool.and_eq_true] at ha; exact ha.1) (fun _ => hz2)
      have hpos : valN r.reverse ≠ 0 := fun h0 => by
        rw [h0] at hIH
        rw [← hIH] at hz2
        exact hz2 (by rw [Lib.decDigits_one (by decide)]; rfl)
      rw [← hr, dec_ge (by omega), show (10 * valN r.reverse + (c.toNat - 48)) / 10 = valN r.reverse by omega, show (10 * valN r.reverse + (c.toNat - 48)) % 10 = c.toNat - 48 by omega, hIH, hcc]
theorem dec_readN {t : List UInt8} {n : Nat} (h : readN t = some n) : t = Lib.decDigits n := by
  by_cases hb : badN t = true
  · rw [readN, numW_bad hb] at h; cases h
  · have hb : badN t = false := by simpa using hb
    cases ha : t.all isDig with
    | false => rw [readN, numW_not ha] at h; cases h
    | true =>
      rw [readN, numW_ok hb ha, if_pos rfl] at h
      injection h with h
      unfold badN at hb
      rw [Bool.or_eq_false_iff, Bool.or_eq_false_iff, decide_eq_false_iff_not, decide_eq_false_iff_not] at hb
      rw [← h]
      refine (dec_val t.reverse t (by rw [List.reverse_reverse]) (fun e => hb.1.1 (by rw [e]; decide)) ha (fun hl e => ?_)).symm
      have := hb.2
      rw [decide_eq_true hl, e] at this
      cases this

/-! A commit. -/
theorem parA_put (rest : List UInt8) (hr : begW wParent rest = false) : ∀ (ps : List Nat) (k : Nat) (acc : List Nat), ps.length ≤ k → (∀ n ∈ ps, n < big) → parA k acc (parB ps ++ rest) = some (acc ++ ps, rest)
  | [], k, acc, _, _ => by
    rw [show parB [] ++ rest = rest from rfl, parA_end hr, List.append_nil]
  | p :: ps, 0, acc, h, _ => by simp at h
  | p :: ps, k + 1, acc, h, hb => by
    have e : parB (p :: ps) ++ rest = lineB wParent (hexI p) ++ (parB ps ++ rest) := by rw [← List.append_assoc]; rfl
    have ht := takeL_line wParent (hexI p) (parB ps ++ rest) (by decide) (hexI_no10 p)
    have hi : idL wParent (parB (p :: ps) ++ rest) = some (p, parB ps ++ rest) := by
      rw [e, idL, ht]
      simp only []
      rw [readI_hex p (hb p (by simp))]
    have hbg : begW wParent (parB (p :: ps) ++ rest) = true := by
      cases hx : begW wParent (parB (p :: ps) ++ rest) with
      | true => rfl
      | false => rw [idL, takeL_no hx] at hi; cases hi
    rw [parA_go hbg hi, parA_put rest hr ps k (acc ++ [p]) (by simpa using h) (fun n hn => hb n (by simp [hn]))]
    simp
theorem put_parA : ∀ (k : Nat) (acc : List Nat) (s : List UInt8) (ps : List Nat) (r : List UInt8), parA k acc s = some (ps, r) → ∃ qs, ps = acc ++ qs ∧ s = parB qs ++ r := by
  intro k
  induction k with
  | zero =>
    intro acc s ps r h
    cases hb : begW wParent s with
    | false =>
      rw [parA_end hb] at h
      injection h with h; injection h with h1 h2; subst h1; subst h2
      exact ⟨[], by simp, rfl⟩
    | true =>
      cases hi : idL wParent s with
      | none => rw [parA_bad hb hi] at h; cases h
      | some x =>
        unfold parA at h
        rw [hb, hi] at h
        simp at h
  | succ k ih =>
    intro acc s ps r h
    cases hb : begW wParent s with
    | false =>
      rw [parA_end hb] at h
      injection h with h; injection h with h1 h2; subst h1; subst h2
      exact ⟨[], by simp, rfl⟩
    | true =>
      cases hi : idL wParent s with
      | none => rw [parA_bad hb hi] at h; cases h
      | some x =>
        obtain ⟨n, r'⟩ := x
        rw [parA_go hb hi] at h
        obtain ⟨qs, h1, h2⟩ := ih _ _ _ _ h
        refine ⟨n :: qs, by rw [h1]; simp, ?_⟩
        rcases idL_cases wParent s with ⟨_, e⟩ | ⟨_, _, _, _, e⟩ | ⟨t, r2, m, ht, e, _⟩
        · rw [hi] at e; cases e
        · rw [hi] at e; cases e
        · rw [hi] at e
          injection e with e
          injection e with e1 e2
          subst e1; subst e2
          have hrd : readI t = some n := by
            rw [idL, ht] at hi
            simp only [] at hi
            cases hx : readI t with
            | none => rw [hx] at hi; cases hi
            | some q => rw [hx] at hi; injection hi with hi; injection hi with hi _; rw [hi]
          rw [line_takeL (by decide) ht, hex_readI hrd, h2]
          rw [← List.append_assoc]; rfl
theorem name_no10 {a : List UInt8} (h : nameB a = true) : ∀ b ∈ a, b ≠ 10 := fun b hb e => by
  unfold nameB at h
  simp only [Bool.and_eq_true, decide_eq_true_eq] at h
  have hv := h.1.1.1.2
  unfold visB at hv
  have := List.all_eq_true.1 hv b hb
  subst e
  revert this
  decide
theorem idL_read {word s r : List UInt8} {n : Nat} (hw : ∀ b ∈ word, b ≠ 10) (h : idL word s = some (n, r)) : s = lineB word (hexI n) ++ r := by
  rcases idL_cases word s with ⟨_, e⟩ | ⟨_, _, _, _, e⟩ | ⟨t, r2, m, ht, e, _⟩
  · rw [h] at e; cases e
  · rw [h] at e; cases e
  · rw [h] at e
    injection e with e
    injection e with e1 e2
    subst e1; subst e2
    have hrd : readI t = some n := by
      rw [idL, ht] at h
      simp only [] at h
      cases hx : readI t with
      | none => rw [hx] at h; cases h
      | some q => rw [hx] at h; injection h with h; injection h with h _; rw [h]
    rw [← hex_readI hrd]
    exact line_takeL hw ht
theorem numL_read {word s r : List UInt8} {n : Nat} (hw : ∀ b ∈ word, b ≠ 10) (h : numL word s = some (n, r)) : s = lineB word (Lib.decDigits n) ++ r := by
  cases ht : takeL word s with
  | none => rw [numL, ht] at h; cases h
  | some x =>
    obtain ⟨t, r2⟩ := x
    rw [numL, ht] at h
    simp only [] at h
    cases hx : readN t with
    | none => rw [hx] at h; cases h
    | some q =>
      rw [hx] at h
      injection h with h
      injection h with h1 h2
      subst h1; subst h2
      rw [← dec_readN hx]
      exact line_takeL hw ht
theorem text_read {s t : List UInt8} (h : textL s = some t) : s = [10] ++ t := by
  unfold textL at h
  split at h
  · rename_i hp
    injection h with h
    rw [List.isPrefixOf_iff_prefix] at hp
    obtain ⟨q, hq⟩ := hp
    rw [← h, ← hq]
    rfl
  · cases h
theorem read_put (T : Nat) (ps : List Nat) (a : List UInt8) (n : Nat) (t : List UInt8) (hT : T < big) (hb : ∀ n ∈ ps, n < big) (ha : nameB a = true) (hn : n < 1000000000000000) : revL (revB T ps a n t) = some ⟨T, ps, a, n, t⟩ := by
  have hd : digS (n : Int) = Lib.decDigits n := by rw [digS, if_neg (by omega), Int.toNat_natCast]
  have e1 : revB T ps a n t = lineB wTree (hexI T) ++ (parB ps ++ (lineB wAuthor a ++ (lineB wTime (Lib.decDigits n) ++ ([10] ++ t)))) := by rw [revB, hd]; simp
  have h1 : idL wTree (revB T ps a n t) = some (T, parB ps ++ (lineB wAuthor a ++ (lineB wTime (Lib.decDigits n) ++ ([10] ++ t)))) := by
    rw [e1, idL, takeL_line wTree (hexI T) _ (by decide) (hexI_no10 T)]
    simp only []
    rw [readI_hex T hT]
  have hnp : begW wParent (lineB wAuthor a ++ (lineB wTime (Lib.decDigits n) ++ ([10] ++ t))) = false := by simp [begW, wParent, lineB, wAuthor, List.isPrefixOf]
  rw [revL, h1]
  simp only []
  rw [parA_put _ hnp ps _ [] (by rw [List.length_append, parB_len]; omega) hb, revL1]
  simp only [List.nil_append]
  rw [revL2, takeL_line wAuthor a _ (by decide) (name_no10 ha)]
  simp only []
  rw [revL3, numL, takeL_line wTime (Lib.decDigits n) _ (by decide) (dec_no10 n)]
  simp only []
  rw [readN_dec n hn]
  simp only []
  rw [revL4, textL, if_pos (by rfl)]
  rfl
theorem put_read {b : List UInt8} {R : RevP} (h : revL b = some R) : revB R.T R.ps R.a R.n R.t = b := by
  unfold revL at h
  split at h
  · cases h
  · rename_i T r0 hi
    unfold revL1 at h
    split at h
    · cases h
    · rename_i ps r1 hp
      unfold revL2 at h
      split at h
      · cases h
      · rename_i a r2 ha
        unfold revL3 at h
        split at h
        · cases h
        · rename_i n r3 hn
          unfold revL4 at h
          split at h
          · cases h
          · rename_i t ht
            injection h with h
            subst h
            obtain ⟨qs, h1, h2⟩ := put_parA _ _ _ _ _ hp
            rw [List.nil_append] at h1
            subst h1
            have hd : digS (n : Int) = Lib.decDigits n := by rw [digS, if_neg (by omega), Int.toNat_natCast]
            show revB T ps a n t = b
            rw [idL_read (by decide) hi, h2, line_takeL (by decide) ha, numL_read (by decide) hn, text_read ht, revB, hd]
            simp
theorem putR_back (T : Nat) (ps : List Nat) (a : List UInt8) (n : Int) (t : List UInt8) (hT : T < big) (hb : ∀ n ∈ ps, n < big) (h : chkE ps a n t = 0) : getR (putR T ps a n t) = (⟨T, ps, a, n.toNat, t⟩, 0) ∧ ((n.toNat : Nat) : Int) = n := by
  obtain ⟨_, _, _, ha, h0, h1⟩ := chkE_ok h
  have hn : ((n.toNat : Nat) : Int) = n := Int.toNat_of_nonneg h0
  have hr := read_put T ps a n.toNat t hT hb ha (by omega)
  rw [hn] at hr
  refine ⟨?_, hn⟩
  rw [putR, if_pos h, getR, hr]
  exact getC_ok (by show chkE ps a ((n.toNat : Nat) : Int) t = 0; rw [hn]; exact h)
theorem getR_back {b : List UInt8} (h : (getR b).2 = 0) : chkE (getR b).1.ps (getR b).1.a (getR b).1.n (getR b).1.t = 0 ∧ putR (getR b).1.T (getR b).1.ps (getR b).1.a (getR b).1.n (getR b).1.t = b := by
  cases hG : revL b with
  | none => rw [getR, hG] at h; cases h
  | some R =>
    by_cases h0 : chkE R.ps R.a R.n R.t = 0
    · rw [getR, hG, getC_ok h0]
      exact ⟨h0, by show putR R.T R.ps R.a R.n R.t = b; rw [putR, if_pos h0]; exact put_read hG⟩
    · rw [getR, hG, getC_bad h0] at h
      exact absurd h h0
end Go.Proofs.YtppddpbacpeadaaDoor

/- What is proved: a tag held against itself whole is one; what a tag is put as is read as that tag, what is read as a tag is just what that one is put as. Conditions: none. -/
import Derived.Test.YtppddpbacpeadaaDoorRwk
import Derived.Test.YtppddpbacpeadaaDoorRxg
namespace Go.Proofs.YtppddpbacpeadaaDoor
open Go.RowKit Go.Sort Go.Shelf
open Ids (idC dgt big idC_size idC_get idC_one cellD zero32 size32 dgt_lt hexB nu)
set_option linter.unusedVariables false

theorem fieldsM : (Tryd.prog.fieldsOf 51).toList.map (fun f => (f.name, f.type, f.offset)) = [("Object", 23, 0), ("Kind", 3, 32), ("Name", 9, 33), ("Time", 3, 34), ("Text", 9, 35)] := by kernel_rfl
theorem underM : Tryd.prog.underlying 51 = some (.struct (Tryd.prog.fieldsOf 51)) := by kernel_rfl
theorem stoodM : Tryd.prog.stoodInHeld 51 = false := by kernel_rfl
theorem aggMID (w : World) : (isAgg 23).run Tryd.prog w = .ok true w := by kernel_rfl
theorem sizMID (w : World) : (sizeOf 23).run Tryd.prog w = .ok 32 w := by kernel_rfl
theorem aggMint (w : World) : (isAgg 3).run Tryd.prog w = .ok false w := by kernel_rfl
theorem aggMstr (w : World) : (isAgg 9).run Tryd.prog w = .ok false w := by kernel_rfl
section
variable (T : Nat) (k : Int) (a : List UInt8) (n : Int) (t : List UInt8)
theorem markC_ext : (markC T k a n t).extract 0 32 = idC (dgt T) := by
  apply Array.toList_inj.1
  rw [Array.toList_extract, List.extract, List.drop_zero, markC_list]
  have hl : (idC (dgt T)).toList.length = 32 := by rw [Array.length_toList, idC_size]
  simp only []
  rw [List.take_append_of_le_length (by rw [hl]; omega), List.take_of_length_le (by rw [hl]; omega)]
theorem partM0 (w : World) : (part 23 (markC T k a n t) 0).run Tryd.prog w = .ok (.agg (idC (dgt T))) w := by
  simp only [part, Sem.run_bind, aggMID, sizMID, Result.andThen_ok, if_true, Sem.run_pure]
  rw [Nat.zero_add, markC_ext]
theorem partM1 (w : World) : (part 3 (markC T k a n t) 32).run Tryd.prog w = .ok (.int .i64 k) w := by
  simp only [part, Sem.run_bind, aggMint, Result.andThen_ok, Bool.false_eq_true, if_false, markC_k, Sem.run_pure]
theorem partM2 (w : World) : (part 9 (markC T k a n t) 33).run Tryd.prog w = .ok (.string (strB a)) w := by
  simp only [part, Sem.run_bind, aggMstr, Result.andThen_ok, Bool.false_eq_true, if_false, markC_a, Sem.run_pure]
theorem partM3 (w : World) : (part 3 (markC T k a n t) 34).run Tryd.prog w = .ok (.int .i64 n) w := by
  simp only [part, Sem.run_bind, aggMint, Result.andThen_ok, Bool.false_eq_true, if_false, markC_n, Sem.run_pure]
theorem partM4 (w : World) : (part 9 (markC T k a n t) 35).run Tryd.prog w = .ok (.string (strB t)) w := by
  simp only [part, Sem.run_bind, aggMstr, Result.andThen_ok, Bool.false_eq_true, if_false, markC_t, Sem.run_pure]
theorem eq_mark (m : Nat) (hm : 3 ≤ m) (w : World) : (Op.equalIn m 51 (.agg (markC T k a n t)) (.agg (markC T k a n t))).run Tryd.prog w = .ok true w := by
  obtain ⟨d, rfl⟩ : ∃ d, m = d + 2 + 1 := ⟨m - 3, by omega⟩
  rw [run_equalIn_struct w (d + 2) 51 _ _ underM stoodM]
  have hf := fieldsM
  generalize (Tryd.prog.fieldsOf 51).toList = fs at hf
  rcases fs with _ | ⟨f, _ | ⟨g, _ | ⟨f', _ | ⟨g', _ | ⟨h', _ | ⟨_, _⟩⟩⟩⟩⟩⟩
  · simp at hf
  · simp at hf
  · simp at hf
  · simp at hf
  · simp at hf
  · simp only [List.map_cons, List.map_nil, List.cons.injEq, Prod.mk.injEq, and_true] at hf
    obtain ⟨⟨f1, f2, f3⟩, ⟨g1, g2, g3⟩, ⟨p1, p2, p3⟩, ⟨q1, q2, q3⟩, r1, r2, r3⟩ := hf
    have ei := Ids.eq_ids (dgt T) (dgt T) (dgt_lt T) (dgt_lt T) (d + 2) (by omega) w
    have es : Ids.sameD (dgt T) (dgt T) = true := by rw [Ids.sameD, beq_self_eq_true]
    rw [es] at ei
    have ek : (Op.equalIn (d + 2) 3 (.int .i64 k) (.int .i64 k)).run Tryd.prog w = .ok (k == k) w := run_equalIn_int w (d + 1) 3 .i64 .i64 k k Tryd.underlying3
    have en : (Op.equalIn (d + 2) 3 (.int .i64 n) (.int .i64 n)).run Tryd.prog w = .ok (n == n) w := run_equalIn_int w (d + 1) 3 .i64 .i64 n n Tryd.underlying3
    have ea : (Op.equalIn (d + 2) 9 (.string (strB a)) (.string (strB a))).run Tryd.prog w = .ok ((strB a).toList == (strB a).toList) w := run_equalIn_string w (d + 1) 9 _ _ Tryd.underlying9
    have et : (Op.equalIn (d + 2) 9 (.string (strB t)) (.string (strB t))).run Tryd.prog w = .ok ((strB t).toList == (strB t).toList) w := run_equalIn_string w (d + 1) 9 _ _ Tryd.underlying9
    rw [beq_self_eq_true] at ek en ea et
    simp only [Op.eqFields, f1, f2, f3, g1, g2, g3, p1, p2, p3, q1, q2, q3, r1, r2, r3, Sem.run_bind, partM0, partM1, partM2, partM3, partM4, ei, ek, en, ea, et, Result.andThen_ok, ne_eq, show ¬ ("Object" = "_") by decide, show ¬ ("Kind" = "_") by decide, show ¬ ("Name" = "_") by decide, show ¬ ("Time" = "_") by decide, show ¬ ("Text" = "_") by decide, not_false_eq_true, if_true, Bool.not_true, Bool.false_eq_true, if_false, Sem.run_pure]
  · simp at hf
end

theorem digL_read {word s r : List UInt8} {n : Nat} (hw : ∀ b ∈ word, b ≠ 10) (h : digL word s = some (n, r)) : s = lineB word (Lib.decDigits n) ++ r := numL_read hw (digL_len h).2.2
theorem read_putM (T k : Nat) (a : List UInt8) (n : Nat) (t : List UInt8) (hT : T < big) (hk : k < 10) (ha : nameB a = true) (hn : n < 1000000000000000) : markL (markB T k a n t) = some ⟨T, k, a, n, t⟩ := by
  have hd : digS (n : Int) = Lib.decDigits n := by rw [digS, if_neg (by omega), Int.toNat_natCast]
  have hdk : digS (k : Int) = Lib.decDigits k := by rw [digS, if_neg (by omega), Int.toNat_natCast]
  have e1 : markB T k a n t = lineB wObject (hexI T) ++ (lineB wKind (Lib.decDigits k) ++ (lineB wName a ++ (lineB wTime (Lib.decDigits n) ++ ([10] ++ t)))) := by rw [markB, hd, hdk]; simp
  have h1 : idL wObject (markB T k a n t) = some (T, lineB wKind (Lib.decDigits k) ++ (lineB wName a ++ (lineB wTime (Lib.decDigits n) ++ ([10] ++ t)))) := by
    rw [e1, idL, takeL_line wObject (hexI T) _ (by decide) (hexI_no10 T)]
    simp only []
    rw [readI_hex T hT]
  rw [markL, h1]
  simp only []
  rw [markL1, digL, numL, takeL_line wKind (Lib.decDigits k) _ (by decide) (dec_no10 k)]
  simp only []
  rw [readN_dec k (by omega)]
  simp only []
  rw [if_pos hk]
  simp only []
  rw [markL2, takeL_line wName a _ (by decide) (name_no10 ha)]
  simp only []
  rw [markL3, numL, takeL_line wTime (Lib.decDigits n) _ (by decide) (dec_no10 n)]
  simp only []
  rw [readN_dec n hn]
  simp only []
  rw [markL4, textL, if_pos (by rfl)]
  rfl
theorem put_readM {b : List UInt8} {R : MarkP} (h : markL b = some R) : markB R.T R.k R.a R.n R.t = b := by
  unfold markL at h
  split at h
  · cases h
  · rename_i T r0 hi
    unfold markL1 at h
    split at h
    · cases h
    · rename_i k r1 hk
      unfold markL2 at h
      split at h
      · cases h
      · rename_i a r2 ha
        unfold markL3 at h
        split at h
        · cases h
        · rename_i n r3 hn
          unfold markL4 at h
          split at h
          · cases h
          · rename_i t ht
            injection h with h
            subst h
            have hd : digS (n : Int) = Lib.decDigits n := by rw [digS, if_neg (by omega), Int.toNat_natCast]
            have hdk : digS (k : Int) = Lib.decDigits k := by rw [digS, if_neg (by omega), Int.toNat_natCast]
            show markB T k a n t = b
            rw [idL_read (by decide) hi, digL_read (by decide) hk, line_takeL (by decide) ha, numL_read (by decide) hn, text_read ht, markB, hd, hdk]
            simp
theorem putM_back (T : Nat) (k : Int) (a : List UInt8) (n : Int) (t : List UInt8) (hT : T < big) (h : mchkE k a n t = 0) : getM (putM T k a n t) = (⟨T, k.toNat, a, n.toNat, t⟩, 0) ∧ ((k.toNat : Nat) : Int) = k ∧ ((n.toNat : Nat) : Int) = n := by
  obtain ⟨_, hk1, hk4, ha, h0, h1⟩ := mchkE_ok h
  have hn : ((n.toNat : Nat) : Int) = n := Int.toNat_of_nonneg h0
  have hk : ((k.toNat : Nat) : Int) = k := Int.toNat_of_nonneg (by omega)
  have hr := read_putM T k.toNat a n.toNat t hT (by omega) ha (by omega)
  rw [hn, hk] at hr
  refine ⟨?_, hk, hn⟩
  rw [putM, if_pos h, getM, hr]
  exact getK_ok (by show mchkE ((k.toNat : Nat) : Int) a ((n.toNat : Nat) : Int) t = 0; rw [hn, hk]; exact h)
theorem getM_back {b : List UInt8} (h : (getM b).2 = 0) : mchkE (getM b).1.k (getM b).1.a (getM b).1.n (getM b).1.t = 0 ∧ putM (getM b).1.T (getM b).1.k (getM b).1.a (getM b).1.n (getM b).1.t = b := by
  cases hG : markL b with
  | none => rw [getM, hG] at h; cases h
  | some R =>
    by_cases h0 : mchkE R.k R.a R.n R.t = 0
    · rw [getM, hG, getK_ok h0]
      exact ⟨h0, by show putM R.T R.k R.a R.n R.t = b; rw [putM, if_pos h0]; exact put_readM hG⟩
    · rw [getM, hG, getK_bad h0] at h
      exact absurd h h0
theorem getM_bad {b : List UInt8} (h : (getM b).2 ≠ 0) : (getM b).1 = zeroQ := by
  cases hG : markL b with
  | none => rw [getM, hG]; rfl
  | some R =>
    by_cases h0 : mchkE R.k R.a R.n R.t = 0
    · rw [getM, hG, getK_ok h0] at h; exact absurd rfl h
    · rw [getM, hG, getK_bad h0]
theorem getM_props (l : List UInt8) : (getM l).1.a.length ≤ l.length ∧ (getM l).1.t.length ≤ l.length ∧ (getM l).1.T < big := by
  have hz : zeroQ.a.length ≤ l.length ∧ zeroQ.t.length ≤ l.length ∧ zeroQ.T < big := ⟨Nat.zero_le _, Nat.zero_le _, by decide⟩
  rw [getM]
  cases h : markL l with
  | none => exact hz
  | some R =>
    have hp := markL_props h
    by_cases h0 : mchkE R.k R.a R.n R.t = 0
    · rw [getK_ok h0]; exact ⟨hp.2.1, hp.2.2.1, hp.2.2.2.2⟩
    · rw [getK_bad h0]; exact hz
theorem putM_len (T : Nat) (k : Int) (a : List UInt8) (n : Int) (t : List UInt8) : (putM T k a n t).length ≤ 1000 := by
  by_cases h : mchkE k a n t = 0
  · obtain ⟨h1, h2, h2', h3, h4, h5⟩ := mchkE_ok h
    have ha := name_small h3
    have hd := digS_len n (by omega)
    have hdk := digS_len k (by omega)
    rw [putM, if_pos h, markB, List.length_append, List.length_append, List.length_append, List.length_append, lineB_len, lineB_len, lineB_len, lineB_len, hexI_len, List.length_append]
    show 6 + 64 + 2 + (4 + _ + 2) + (4 + _ + 2) + (4 + _ + 2) + (1 + _) ≤ 1000
    omega
  · rw [putM, if_neg h]; exact Nat.zero_le _
end Go.Proofs.YtppddpbacpeadaaDoor

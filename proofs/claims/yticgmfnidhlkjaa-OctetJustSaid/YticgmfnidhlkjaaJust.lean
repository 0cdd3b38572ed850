/- What is proved: OctetJust, for every slice of bytes: a number and a text that are read without an error are just what laying them makes; the bytes read as before. Conditions: none beyond the row's own. -/
import Derived.Test.YticgmfnidhlkjaaVar
import Derived.Test.YticgmfnidhlkjaaArg
namespace Go.Proofs.Yticgmfnidhlkjaa.just
open Go.ChangeShapes Go.WideShapes Go.ChangeAt Go.RowKit
open Go.Proofs.Yticgmfnidhlkjaa
set_option linter.unusedVariables false

theorem toNat_val (c : UInt8) : UInt8.ofNat c.toNat = c := by simp
theorem scan_inv (f k a : Nat) (l : List UInt8) (v s : Nat) (h : scan (f + 1) k a l = (v, s, 0)) :
    ∃ m rest, v = a + m * 128 ^ k ∧ l = varF f m ++ rest ∧ s = k + (varF f m).length ∧ (0 < k → m ≠ 0) := by
  induction f generalizing k a l with
  | zero =>
    cases l with
    | nil => simp [scan] at h
    | cons c t =>
      rw [scan] at h
      split at h
      · simp at h
      · rename_i hb
        split at h
        · rename_i hc
          simp only [Prod.mk.injEq] at h
          refine ⟨c.toNat, t, by rw [← h.1, Nat.mod_eq_of_lt hc], by simp [varF], by simp [varF]; omega, by omega⟩
        · simp [scan] at h
  | succ f ih =>
    cases l with
    | nil => simp [scan] at h
    | cons c t =>
      rw [scan] at h
      split at h
      · simp at h
      · rename_i hb
        split at h
        · rename_i hc
          simp only [Prod.mk.injEq] at h
          refine ⟨c.toNat, t, by rw [← h.1, Nat.mod_eq_of_lt hc], ?_, ?_, by omega⟩
          · rw [varF_small _ _ hc]; simp
          · rw [varF_small _ _ hc]; simp; omega
        · rename_i hc
          obtain ⟨m, rest, h1, h2, h3, h4⟩ := ih _ _ _ h
          have hm := h4 (by omega)
          have hct := c.toNat_lt
          refine ⟨c.toNat % 128 + 128 * m, rest, ?_, ?_, ?_, by omega⟩
          · rw [h1, Nat.pow_succ, Nat.add_mul, Nat.add_assoc]
            congr 2
            rw [Nat.mul_comm (128 ^ k) 128, ← Nat.mul_assoc, Nat.mul_comm m 128]
          · rw [varF, if_neg (by omega)]
            have e1 : (c.toNat % 128 + 128 * m) % 128 + 128 = c.toNat := by omega
            have e2 : (c.toNat % 128 + 128 * m) / 128 = m := by omega
            rw [e1, e2, toNat_val, h2]
            rfl
          · rw [varF, if_neg (by omega), List.length_cons]
            have e2 : (c.toNat % 128 + 128 * m) / 128 = m := by omega
            rw [e2]
            omega

theorem varR_inv {l : List UInt8} {v s : Nat} (h : varR l = (v, s, 0)) : ∃ rest, l = varB v ++ rest ∧ s = (varB v).length := by
  obtain ⟨m, rest, h1, h2, h3, _⟩ := scan_inv 9 0 0 l v s h
  have e : m = v := by omega
  subst e
  exact ⟨rest, h2, by unfold varB; omega⟩

/-- What Var takes without an error is the number's bytes. -/
theorem varO_inv {bs : List UInt8} {p : Nat} {er most : Int} {o : Nat × Nat × Int} (h : varO bs p er most = o) (h0 : o.2.2 = 0) : er = 0 ∧ o.2.1 = p + (varB o.1).length ∧ ∃ rest, bs.drop p = varB o.1 ++ rest := by
  unfold varO at h
  split at h
  · rename_i hn
    rw [← h] at h0
    exact absurd h0 hn
  · rename_i hn
    split at h
    · rw [← h] at h0
      simp at h0
    · have hn' : (digR bs p er).2.2 = 0 := by simpa using hn
      unfold digR at hn' h
      by_cases he : er = 0
      · simp only [if_pos he] at hn' h
        obtain ⟨rest, h1, h2⟩ := varR_inv (l := bs.drop p) (v := (varR (bs.drop p)).1) (s := (varR (bs.drop p)).2.1) (by rw [← hn'])
        rw [← h]
        exact ⟨he, by simp only; omega, rest, h1⟩
      · rw [if_neg he] at hn'
        exact absurd hn' he

theorem just_math {bs : List UInt8} {o1 : Nat × Nat × Int} {o2 : List UInt8 × Nat × Int} {most : Int} (h1 : varO bs 0 0 18446744073709551615 = o1) (h2 : textO bs o1.2.1 o1.2.2 most = o2) (h0 : o2.2.2 = 0) (hp : o1.2.1 ≤ bs.length) :
    varB o1.1 ++ textB o2.1 = bs.take o2.2.1 ∧ o2.1.length ≤ bs.length ∧ (o2.1.length : Int) ≤ most ∧ o2.2.1 ≤ bs.length := by
  unfold textO textF at h2
  obtain ⟨o3, h3⟩ : ∃ o3, varO bs o1.2.1 o1.2.2 18446744073709551615 = o3 := ⟨_, rfl⟩
  rw [h3] at h2
  split at h2
  · rw [← h2] at h0
    exact absurd h0 (failErr_ne _)
  · rename_i hm
    have hr : rawErr bs.length o3.2.1 o3.2.2 o3.1 = 0 := by rw [← h2] at h0; exact h0
    have hr' := hr
    unfold rawErr at hr
    rw [if_neg (by omega)] at hr
    obtain ⟨e3, l3⟩ := hasErr_zero hr
    obtain ⟨e1, a3, rest3, d3⟩ := varO_inv h3 e3
    obtain ⟨_, a1, rest1, d1⟩ := varO_inv h1 e1
    have hb : rawB bs o3.2.1 o3.2.2 o3.1 = (bs.drop o3.2.1).take o3.1 := by
      unfold rawB
      rw [if_neg (by omega), if_pos hr, Int.toNat_natCast]
    have ha : rawAt bs.length o3.2.1 o3.2.2 o3.1 = o3.2.1 + o3.1 := by
      unfold rawAt stepAt
      rw [if_neg (by omega), Int.toNat_natCast, if_pos ⟨e3, by omega⟩]
    rw [hb, hr', ha] at h2
    unfold backAt at h2
    rw [if_pos rfl] at h2
    have hlen : ((bs.drop o3.2.1).take o3.1).length = o3.1 := by rw [List.length_take, List.length_drop]; omega
    rw [← h2]
    refine ⟨?_, by simp only; rw [hlen]; omega, by simp only; rw [hlen]; omega, by simp only; omega⟩
    simp only
    unfold textB
    rw [hlen]
    have hd0 : bs = varB o1.1 ++ rest1 := by simpa using d1
    have hl1 : o1.2.1 = (varB o1.1).length := by omega
    have hr1 : rest1 = varB o3.1 ++ rest3 := by
      rw [← d3, hl1]
      conv => rhs; rw [hd0]
      rw [List.drop_left]
    have hr3 : bs.drop o3.2.1 = rest3 := by
      rw [a3, hl1, hd0, hr1, ← List.append_assoc, ← List.length_append, List.drop_left]
    rw [hr3]
    have hbs : bs = varB o1.1 ++ (varB o3.1 ++ rest3) := by rw [← hr1]; exact hd0
    rw [a3, hl1]
    conv => rhs; rw [hbs, ← List.append_assoc]
    rw [← List.length_append, List.take_length_add_append, List.append_assoc]

theorem lies_take {w : World} {A : Option Addr} {bs : List UInt8} (h : Lies w A (bytesV bs)) (n : Nat) : Lies w A (bytesV (bs.take n)) := by
  rcases h with h | ⟨b, o, rfl, hc⟩
  · have : bs = [] := List.eq_nil_of_length_eq_zero (by rw [← bytesV_length, h]; rfl)
    subst this
    exact .inl (by simp [bytesV])
  · refine .inr ⟨b, o, rfl, fun j u hu => hc j u ?_⟩
    unfold bytesV at hu ⊢
    rw [List.getElem?_map, List.getElem?_take] at hu
    rw [List.getElem?_map]
    split at hu
    · exact hu
    · simp at hu

/-- The walk where an error is told. -/
theorem walk_err (A : Option Addr) (cap : Nat) (bs : List UInt8) (w : World) (hl : Lies w A (bytesV bs)) (hb : bs.length ≤ 140737488351232) (o1 : Nat × Nat × Int) (o2 : List UInt8 × Nat × Int)
    (h1 : varO bs 0 0 18446744073709551615 = o1) (h2 : textO bs o1.2.1 o1.2.2 1073741824 = o2) (h0 : o2.2.2 ≠ 0) :
    Calls Try.prog 6 #[.slice A bs.length cap] w fun e w' => e = .returned (.bool true) ∧ Below w.heap.size w w' := by
  have hne : (o2.2.2 != 0) = true := by simpa using h0
  have H1 := Lib.hid h1
  have H2 := Lib.hid h2
  have HL := Lib.hid hl
  clear h1 h2 h0 hl
  go_enter Try.func6, Try.ntmps6
  go_wp2_with (first
    | (go_at_call 15; refine (NewReader_any A cap bs _ HL.out (by omega)).mono ?_; rintro e w1 ⟨g, v, rfl, hg, hv, r1, b1⟩)
    | (go_at_call 20; refine (RVar_any g v bs 0 0 18446744073709551615 _ r1 (by omega) (by omega)).mono ?_; rintro e w2 ⟨rfl, r2, f2⟩; rw [H1.out] at r2; rw [H1.out])
    | (go_at_call 21; refine (RText_any g v bs _ _ 1073741824 _ r2 (by omega) (by omega)).mono ?_; rintro e w3 ⟨rfl, r3, f3⟩; rw [H2.out] at r3; rw [H2.out]; have hle := r3.le)
    | (go_at_call 24; refine (RErr_any g v bs _ _ _ r3).mono ?_; rintro e w4 ⟨rfl, rfl⟩)
    | (go_at_call 25; refine (RLeft_any g v bs _ _ _ r3).mono ?_; rintro e w5 ⟨rfl, n, rfl⟩)
    | (go_at_call 14; refine (works_any _).mono ?_; rintro e w6 ⟨rfl, b6⟩))
  go_ret
  refine ⟨rfl, ?_⟩
  have F : Fr (fun k => w.heap.size ≤ k) w w3 := ((Fr.of_below b1).trans f2 (fun i hi e => by omega)).trans f3 (fun i hi e => by omega)
  exact ((F.drewN n).then_below b6).below (fun i hi => by omega)

set_option maxHeartbeats 1600000 in
/-- The walk where all is read. -/
theorem walk_ok (A : Option Addr) (cap : Nat) (bs : List UInt8) (w : World) (hl : Lies w A (bytesV bs)) (hcap : bs.length ≤ cap) (hb : bs.length ≤ 140737488351232) (o1 : Nat × Nat × Int) (o2 : List UInt8 × Nat × Int)
    (h1 : varO bs 0 0 18446744073709551615 = o1) (h2 : textO bs o1.2.1 o1.2.2 1073741824 = o2) (h0 : o2.2.2 = 0) (hp1 : o1.2.1 ≤ bs.length) :
    Calls Try.prog 6 #[.slice A bs.length cap] w fun e w' => e = .returned (.bool true) ∧ Below w.heap.size w w' := by
  obtain ⟨m1, m2, m3, m4⟩ := just_math h1 h2 h0 hp1
  have hv1 := varO_lt bs 0 0 18446744073709551615
  rw [h1] at hv1
  have hvl := varB_length o1.1
  obtain ⟨xs, hxs⟩ : ∃ xs, varB o1.1 ++ textB o2.1 = xs := ⟨_, rfl⟩
  obtain ⟨p2, hp2⟩ : ∃ p2, o2.2.1 = p2 := ⟨_, rfl⟩
  rw [hp2, hxs] at m1
  rw [hp2] at m4
  have hlen : xs.length = p2 := by rw [m1, List.length_take]; omega
  have hLt : Lies w A (bytesV (bs.take p2)) := lies_take hl p2
  have hlt2 : (bs.take p2).length = p2 := by rw [List.length_take]; omega
  have hxl : xs.length ≤ 140737488355328 := by omega
  have hsz : (strB o2.1).size ≤ 1073741824 := by rw [strB_size]; omega
  have hsz2 : (varB o1.1).length + (strB o2.1).size + 10 ≤ 140737488355328 := by omega
  obtain ⟨n1, hn1, hn10, hn11⟩ : ∃ n1 : Int, (o1.1 : Int) = n1 ∧ 0 ≤ n1 ∧ n1 < 18446744073709551616 := ⟨_, rfl, by omega, by omega⟩
  have HN1 := Lib.hid hn1
  have H1 := Lib.hid h1
  have H2 := Lib.hid h2
  have H0 := Lib.hid h0
  have HL := Lib.hid hl
  have HX := Lib.hid hxs
  have HP := Lib.hid hp2
  have HLEN := Lib.hid hlen
  have HLT := Lib.hid hLt
  have HLT2 := Lib.hid hlt2
  have HM := Lib.hid (show (xs == bs.take p2) = true by rw [m1]; simp)
  have HSZ := Lib.hid hsz2
  have hp2c : (p2 : Int) ≤ cap := by omega
  have hp20 : (0 : Int) ≤ (p2 : Int) := by omega
  have hp2b : (p2 : Int) ≤ bs.length := by omega
  clear h1 h2 h0 hl hxs hp2 hlen hLt hlt2 m1 m2 m3 hn1 hsz hsz2 hvl
  go_enter Try.func6, Try.ntmps6
  go_wp2_with (first
    | (go_at_call 15; refine (NewReader_any A cap bs _ HL.out (by omega)).mono ?_; rintro e w1 ⟨g, v, rfl, hg, hv, r1, b1⟩)
    | (go_at_call 20; refine (RVar_any g v bs 0 0 18446744073709551615 _ r1 (by omega) (by omega)).mono ?_; rintro e w2 ⟨rfl, r2, f2⟩; rw [H1.out] at r2; rw [H1.out, HN1.out])
    | (go_at_call 21; refine (RText_any g v bs _ _ 1073741824 _ r2 (by omega) (by omega)).mono ?_; rintro e w3 ⟨rfl, r3, f3⟩; rw [H2.out, HP.out, H0.out] at r3; rw [H2.out]; have hglt := r3.whole.lt)
    | (go_at_call 24; refine (RErr_any g v bs _ _ _ r3).mono ?_; rintro e w4 ⟨rfl, rfl⟩)
    | (go_at_call 8; refine (NewWriter_any _).mono ?_; rintro e w5 ⟨rfl, h5⟩; subst h5)
    | (go_at_call 26; refine (WVar_any _ _ [] _ _ (Wr.new _) (by omega) (by omega) (by simp)).mono ?_; rintro e w6 ⟨rfl, v6, r6, s6⟩; rw [← HN1.out, Int.toNat_natCast, List.nil_append] at r6)
    | (go_at_call 27; refine (WText_any _ _ _ _ _ r6 HSZ.out).mono ?_; rintro e w7 ⟨rfl, v7, r7, s7⟩; rw [strB_toList, HX.out] at r7; have hs := (s6.trans s7).fr; have hR := (Rd.below r3 ((Below.refl _ _).alloc (Nat.le_refl _) _)).fr hs (by rintro (e | e); (omega); (cases e)) (by rintro k hk (e | e); (have := own_lt r3.own hk; omega); (cases e)))
    | (go_at_call 11; refine (WLen_any _ _ _ _ r7).mono ?_; rintro e w8 ⟨rfl, rfl⟩; rw [HLEN.out])
    | (go_at_call 28; (first | refine (RAt_any g v bs _ _ _ hR).mono ?_ | refine (RAt_any g v bs _ _ _ (hR.below b9)).mono ?_); rintro e w10 ⟨rfl, rfl⟩)
    | (go_at_call 13; refine (WBytes_any _ _ _ _ r7 hxl).mono ?_; rintro e w9 ⟨v9, rfl, o9, b9⟩; obtain ⟨A9, c9, rfl, -, l9, -⟩ := own_lies o9; rw [HLEN.out]; have L9 := Lib.hid l9; clear l9 o9)
    | (go_at_call 12; have hB := ((((Fr.of_below b1 : Fr (fun k => w.heap.size ≤ k) w w1).trans f2 (fun i hi e => by omega)).trans f3 (fun i hi e => by omega)).alloc (.cells #[.slice none 0 0] 63)).trans hs (by rintro i hi (e | e); (omega); (cases e)); refine (Same_n _ _ _ _ _ _ xs (bs.take p2) _ HLEN.out HLT2.out L9.out (by exact (HLT.out.below ((hB.then_below b9).below (fun i hi => by omega))))).mono ?_; rintro e w11 ⟨rfl, rfl⟩; rw [HM.out])
    | (go_at_call 14; refine (works_any _).mono ?_; rintro e w12 ⟨rfl, b12⟩))
  go_ret
  exact ⟨rfl, ((hB.then_below b9).then_below b12).below (fun i hi => by omega)⟩

theorem walk (A : Option Addr) (cap : Nat) (bs : List UInt8) (w : World) (hl : Lies w A (bytesV bs)) (hcap : bs.length ≤ cap) (hb : bs.length ≤ 140737488351232) :
    Calls Try.prog 6 #[.slice A bs.length cap] w fun e w' => e = .returned (.bool true) ∧ Below w.heap.size w w' := by
  by_cases h0 : (textO bs (varO bs 0 0 18446744073709551615).2.1 (varO bs 0 0 18446744073709551615).2.2 1073741824).2.2 = 0
  · refine walk_ok A cap bs w hl hcap hb _ _ rfl rfl h0 ?_
    unfold varO
    split
    · exact Nat.zero_le _
    · split
      · exact Nat.zero_le _
      · rename_i hn _
        have hz : (digR bs 0 0).2.2 = 0 := by simpa using hn
        have hd : digR bs 0 0 = varR bs := by unfold digR; rw [if_pos rfl, List.drop_zero]
        rw [hd] at hz ⊢
        have := (scan_size 10 0 0 bs hz).2.1
        show 0 + (varR bs).2.1 ≤ bs.length
        unfold varR
        omega
  · exact walk_err A cap bs w hl hb _ _ rfl rfl h0

theorem own_knob : ownKnob Try.prog.godebug = none := by kernel_rfl
theorem laidOut : laidOutB Try.prog = true := by kernel_rfl
theorem bytes_u8 : Try.prog.bytesOf 5 = 1 := by kernel_rfl

set_option maxRecDepth 100000 in
theorem lifted (os : Os) (started : os.Started) (H : Type) (enc : TypeId × Value → H) :
    ReturnsInHanded {} Try.checked os 6 .any (Rows.octetJustSpec.pre6 enc Try.prog Try.f6 Rows.octetJustRow.domain false) (Rows.octetJustSpec.post enc Try.prog Try.f6 false true false false) := by
  refine returnsInHanded_of_change_sized (C := Try.checked) own_knob started (by kernel_rfl) Try.func6
    (ChangeSpec.witness6 (enc := enc) (C := Try.checked) false ⟨#[], #[.slice none 0 0], []⟩ 8 (by kernel_rfl) (by kernel_rfl) (by kernel_rfl) (by kernel_rfl)) ?_
  intro W base args ds gs before hval0 hW hcnd hsz0 _
  have hval : ∀ (j : Nat) t v, Try.f6.params[j]? = some t → args[j]? = some v → Value.okWide Try.prog W .any base t v := hval0
  have hsz : (DataW.weightsEach Try.prog (Try.f6.params.toList ++ Rows.octetJustSpec.plain.varTypes Try.prog) (ds ++ gs)).all (· ≤ reachBytes) = true := hsz0
  have hW' := hW
  obtain ⟨p, q, hA0, hV, rfl, hfz, hnd⟩ := hW
  have hA : DataW.TrodAll enc Try.prog W 0 (fun _ => true) true Try.f6.params.toList args.toList ds p := hA0
  rw [Try.params6] at hA hval hsz
  obtain ⟨v0, vs0, d0, ds0, p0, q0, hargs, rfl, rfl, h0, r0⟩ := trodAll_cons hA
  obtain ⟨rfl, rfl, rfl⟩ := trodAll_nil r0
  obtain rfl : args = #[v0] := by cases args; simp_all
  obtain ⟨rfl, rfl⟩ := trodVars_none hV
  obtain ⟨a0, len0, cap0, rfl⟩ := okWide_slice Try.underlying25 (hval 0 25 v0 rfl rfl)
  have k0 := h0
  have lt0 : ∀ x ∈ p0, x.block < W.heap.size := by obtain ⟨m, hm⟩ := k0; exact DataW.trod_lt m _ _ _ hm
  obtain ⟨fuel, hf⟩ := h0
  obtain ⟨A, cap, bs, hcs, hcap, hl, hx⟩ := open_bytes Try.underlying25 Try.underlying5 (by kernel_rfl) hf
  simp [Value.cells] at hcs
  obtain ⟨rfl, rfl, rfl⟩ := hcs
  have hb : bs.length ≤ 140737488351232 := by
    rcases hx with ⟨_, h⟩ | ⟨elems, spare, he, h⟩
    · omega
    · have he' : d0 = .slice elems spare := he
      subst he'
      have := sized_slice hsz (j := 0) (t := 25) (e := 5) rfl rfl Try.underlying25
      rw [bytes_u8] at this
      simp only [reachBytes] at this
      omega
  clear hA0 hval0
  refine (walk a0 cap0 bs W hl hcap hb).mono fun e W' ⟨he, bel⟩ => ?_
  subst he
  exact ⟨_, rfl, _, _, _, [], _, [], hW', trodAll_mk1 (shut_bool Try.underlying4 _), (trodAll_cons_mk (Below.trod laidOut (by kernel_rfl) (of_decide_eq_true (by kernel_rfl)) k0 bel lt0) trodAll_mk0), rfl, bel.frame _, fun h => by cases h⟩

theorem over : Rows.octetJustRow.holds Try.pinned (OpenSpec.ofChange Rows.octetJustSpec) :=
  OpenClaim.holds_of_wide 6 Try.f6 rfl rfl rfl rfl rfl rfl rfl ⟨rfl, rfl, rfl, rfl, rfl⟩ rfl rfl rfl rfl rfl (by kernel_rfl) Try.func6 (by kernel_rfl)
    (of_decide_eq_true (by kernel_rfl)) (by unfold Func.isWrapper; first | (rw [if_pos (by decide +kernel)]; kernel_rfl) | (rw [if_neg (by decide +kernel)]; exact ⟨rfl, rfl⟩))
    (fun os started H enc _ => lifted os started H enc)

/-- The statement. -/
theorem proved : Rows.OctetJustSaid := over
#print axioms proved
end Go.Proofs.Yticgmfnidhlkjaa.just

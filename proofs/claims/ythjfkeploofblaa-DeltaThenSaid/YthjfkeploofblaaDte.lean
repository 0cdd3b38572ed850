/- What is proved: the ops that lay what a cutter's lay from one place on up to another one, by the program. Conditions: the cutter is as made; the places lie in what its ops lay. -/
import Derived.Test.YthjfkeploofblaaDtc
import Derived.Test.YthjfkeploofblaaDtd
namespace Go.Proofs.Ythjfkeploofblaa
open Go.RowKit
set_option linter.unusedVariables false

theorem cutR_empty (os : List DOp) (f t : Int) (h : t ≤ f) : cutR os f t = [] := by
  induction os generalizing f t with
  | nil => rfl
  | cons o os ih =>
    unfold cutR
    rw [if_neg (by omega), ih _ _ (by omega)]
    rfl
/-- The op k lays the byte F, if any more are wanted. -/
def AtOp (os : List DOp) (k : Nat) (F T : Int) : Prop := F < T → k < os.length ∧ sumO (os.take k) ≤ F ∧ F < sumO (os.take (k + 1))
theorem cut_round {os : List DOp} (hp : ∀ o ∈ os, 1 ≤ o.size) {k : Nat} {o : DOp} (h : os[k]? = some o) {F T S Z X : Int} (hS : sumO (os.take k) = S) (hZ : o.size = Z) (h1 : S ≤ F) (h2 : F < S + Z) (h3 : F < T) (hT : T ≤ sumO os) (hX : X = min (S + Z) T) :
    cutR (os.drop k) (F - sumO (os.take k)) (T - sumO (os.take k)) = subO o (F - S) (X - S) :: cutR (os.drop (k + 1)) (X - sumO (os.take (k + 1))) (T - sumO (os.take (k + 1))) ∧ AtOp os (k + 1) X T := by
  have hk := (List.getElem?_eq_some_iff.1 h).1
  have hs := sum_take_succ h
  have hp' : ∀ q ∈ os.drop (k + 1), 1 ≤ q.size := fun q hq => hp q (List.mem_of_mem_drop hq)
  refine ⟨?_, fun hlt => ?_⟩
  · rw [cutR_step h F T (sumO (os.take k)) rfl, hS, hZ, hs, hS, hZ]
    rw [if_pos (by omega), show max 0 (F - S) = F - S by omega, show min Z (T - S) = X - S by omega]
    simp only [List.singleton_append, List.cons.injEq, true_and]
    by_cases hc : S + Z ≤ T
    · exact cutR_low _ _ _ _ (by omega) (by omega) hp'
    · rw [cutR_none _ _ _ (by omega) hp', cutR_none _ _ _ (by omega) hp']
  · have hc : k + 1 < os.length := by
      rcases Nat.lt_or_ge (k + 1) os.length with h4 | h4
      · exact h4
      · have h5 := hs
        rw [List.take_of_length_le h4] at h5
        omega
    have e2 := sum_take_succ (List.getElem?_eq_getElem hc)
    have := hp _ (List.getElem_mem hc)
    refine ⟨hc, by omega, by omega⟩
theorem cut_start {os : List DOp} (hp : ∀ o ∈ os, 1 ≤ o.size) {m : Nat} {f T : Int} (h0 : 0 ≤ f) (hT : T ≤ sumO os) (hf : Found os.length (fun i => decide (f + 1 ≤ sumO (os.take (i + 1)))) m) (hlt : f < T) :
    cutR os f T = cutR (os.drop m) (f - sumO (os.take m)) (T - sumO (os.take m)) ∧ AtOp os m f T := by
  have hm := hf.le
  have hlow : sumO (os.take m) ≤ f := by
    rcases Nat.eq_zero_or_pos m with rfl | h1
    · simp [sumO_nil]; exact h0
    · have := hf.below (m - 1) (by omega)
      rw [show m - 1 + 1 = m by omega] at this
      have := of_decide_eq_false this
      omega
  refine ⟨cutR_skip os f T m hm hlow hp, fun _ => ?_⟩
  have hlt2 : m < os.length := by
    rcases Nat.lt_or_ge m os.length with h | h
    · exact h
    · rw [List.take_of_length_le h] at hlow
      omega
  exact ⟨hlt2, hlow, by have := of_decide_eq_true (hf.here hlt2); omega⟩

set_option maxHeartbeats 6400000 in
set_option maxRecDepth 100000 in
theorem Dcut_any {w0 w : World} {gc g M ce c : Nat} {E A : Option Addr} {ps : List POp} {R : List UInt8} (h : Ctr w0 w gc g M E ce A c ps R) (hsc : Scr w0 A c ps) (hM : M ≤ 4000) (base : Int) (hb : base ≤ 4000)
    (hr : ∀ o ∈ opsO ps, o.Right base) (hsum : sumO (opsO ps) ≤ 4000) (hl : ps.length ≤ 1000) (f n : Nat) (hn : 1 ≤ n) (hfn : (f : Int) + n ≤ sumO (opsO ps)) (hroom : R.length + n ≤ M) :
    Calls Try.prog 50 #[.pointer (some ⟨gc, 0, none⟩), .int .i64 f, .int .i64 ((f : Int) + n)] w fun e w' => ∃ v rs R', e = .returned v ∧ w'.ownsRow w.heap.size 57 4 v rs.length (flatP rs) ∧ opsO rs = cutR (opsO ps) f ((f : Int) + n) ∧
      (∀ q ∈ rs, InR g (R ++ R') q) ∧ R'.length ≤ n ∧ rs.length ≤ n ∧ Ctr w0 w' gc g M E ce A c ps (R ++ R') ∧ Fr (fun j => j = g ∨ j = gc) w w' := by
  have hp : ∀ o ∈ opsO ps, 1 ≤ o.size := fun o ho => (hr o ho).pos
  have hlen : (opsO ps).length = ps.length := by simp [opsO]
  have hpos : 0 < ps.length := by
    rcases Nat.eq_zero_or_pos ps.length with h0 | h0
    · have : ps = [] := List.eq_nil_of_length_eq_zero h0
      subst this
      simp [opsO, sumO_nil] at hfn
      omega
    · exact h0
  obtain ⟨eb, hEb⟩ : ∃ eb, E = some ⟨eb, 0, none⟩ := own_g0 h.ends hpos
  subst hEb
  have hcE : ∀ i, i < ps.length → w.cell? ⟨eb, i, none⟩ = some (.int .i64 (sumO ((opsO ps).take (i + 1)))) := fun i hi => by
    have := World.ownsRow.cellAt h.ends i (by omega)
    rw [endsV_get _ _ (by omega)] at this
    exact this
  have HSe := Lib.hid (SearchInts_any eb ps.length ce (fun i => sumO ((opsO ps).take (i + 1))) ((f : Int) + 1) hl (fun a b hab hb' => by
    rcases (by omega : a = b ∨ a < b) with rfl | h1
    · exact Int.le_refl _
    · have := sum_take_mono hp (i := a + 1) (j := b + 1) (by omega) (by omega)
      omega) w hcE)
  obtain ⟨T, hT⟩ : ∃ T : Nat, (f : Int) + n = T := ⟨f + n, by omega⟩
  rw [hT] at hfn ⊢
  obtain ⟨L, hL⟩ : ∃ L, ps.length = L := ⟨_, rfl⟩
  have HL := Lib.hid hL
  have HH := Lib.hid h
  have HSc := Lib.hid hsc
  have HP := Lib.hid hp
  have HR := Lib.hid hr
  have hcell := h.cell
  rw [hL] at hcell HSe hl hpos
  obtain ⟨c0, c1, c2⟩ := hcell.three
  have HSm := Lib.hid hsum
  have HFn := Lib.hid hfn
  obtain ⟨i0, gi, gz0, gz1, gz2⟩ := info_parts infoDO
  have hfT : (f : Int) < T := by omega
  have hf0 : (0 : Int) ≤ f := by omega
  have hf1 : (f : Int) + 1 ≤ 4001 := by omega
  clear h hsc hp hr hlen hcE hcell hL hsum
  go_enter Try.func50, Try.ntmps50
  go_wp2_with (go_at_call 62; refine HSe.out.mono ?_; rintro e w1 ⟨m, rfl, fo, b1⟩; have HFo := Lib.hid fo; have HF1 := Lib.hid (Fr.of_below (S := fun _ => False) b1); clear fo b1)
  have hst := cut_start (T := T) HP.out hf0 HFn.out (by have := HFo.out; simpa [opsO, HL.out] using this) hfT
  obtain ⟨hst1, hst2⟩ := hst
  have HSt1 := Lib.hid hst1
  have HSt2 := Lib.hid hst2
  clear hst1 hst2
  go_loopw [1, 7, 8] (fun s1 s7 s8 wr => ∃ (k F : Nat) (v : Value) (rs : List POp) (R' : List UInt8), s1 = .int .i64 F ∧ s7 = v ∧ s8 = .int .i64 k ∧ k ≤ L ∧ f ≤ F ∧ F ≤ T ∧ rs.length ≤ F - f ∧ R'.length ≤ F - f ∧
      Hid (wr.ownsRow w.heap.size 57 4 v rs.length (flatP rs)) ∧ Hid (opsO rs ++ cutR ((opsO ps).drop k) ((F : Int) - sumO ((opsO ps).take k)) ((T : Int) - sumO ((opsO ps).take k)) = cutR (opsO ps) f T) ∧
      Hid (AtOp (opsO ps) k F T) ∧ Hid (∀ q ∈ rs, InR g (R ++ R') q) ∧ Hid (Ctr w0 wr gc g M (some ⟨eb, 0, none⟩) ce A c ps (R ++ R')) ∧ Hid (Fr (fun j => j = g ∨ j = gc) w wr)) (fun s1 _ _ _ => T - (intOf s1).toNat)
  case atStart =>
    refine ⟨m, f, _, [], [], rfl, rfl, rfl, by have := HFo.out.le; omega, Nat.le_refl _, by omega, by simp, by simp, Lib.hid (World.ownsRow_nil _ _ _ _), Lib.hid HSt1.out.symm, HSt2, Lib.hid (by simp), Lib.hid ?_, Lib.hid (HF1.out.mono (fun _ _ e => e.elim))⟩
    rw [List.append_nil]
    exact HH.out.fr HF1.out (fun _ e => e.elim) (fun e => e) (fun e => e) (fun _ _ e => e)
  case round =>
    obtain ⟨k, F, v, rs, R', rfl, rfl, rfl, hk, hF, hFT, hrl, hRl, HO, HI, HA, HIn, HC, HFr⟩ := hrel
    obtain ⟨Av, cv, hv, -, -⟩ := own_slice HO.out
    subst hv
    have hF0 : (0 : Int) ≤ F := by omega
    have hfn : (T : Int) ≤ 4000 := by have := HFn.out; have := HSm.out; omega
    by_cases hlt : F < T
    · have hlt' : (F : Int) < T := by omega
      obtain ⟨hkL, hS1, hS2⟩ := HA.out hlt'
      rw [show (opsO ps).length = L by simp [opsO, HL.out]] at hkL
      obtain ⟨p, hpk⟩ : ∃ p, ps[k]? = some p := ⟨ps[k]'(by rw [HL.out]; exact hkL), List.getElem?_eq_getElem (by rw [HL.out]; exact hkL)⟩
      obtain ⟨o, B, pc⟩ := p
      have hok : (opsO ps)[k]? = some o := by simp [opsO, hpk]
      have hsk := sum_take_succ hok
      have hpo := HP.out o (List.mem_of_getElem? hok)
      have hnn := sum_take_nonneg HP.out k (by simp [opsO, HL.out]; omega)
      have hmx : sumO ((opsO ps).take (k + 1)) ≤ sumO (opsO ps) := by
        rcases (by omega : k + 1 = L ∨ k + 1 < L) with h1 | h1
        · rw [List.take_of_length_le (by simp [opsO, HL.out]; omega)]; exact Int.le_refl _
        · have := sum_take_mono HP.out (i := k + 1) (j := L) h1 (by simp [opsO, HL.out])
          rw [List.take_of_length_le (i := L) (by simp [opsO, HL.out])] at this
          omega
      obtain ⟨S, hS⟩ : ∃ S : Nat, sumO ((opsO ps).take k) = S := ⟨(sumO ((opsO ps).take k)).toNat, by omega⟩
      obtain ⟨Z, hZ⟩ : ∃ Z : Nat, o.size = Z := ⟨o.size.toNat, by omega⟩
      obtain ⟨l, hl'⟩ : ∃ l : Nat, F = S + l := ⟨F - S, by omega⟩
      have hcE : wr.cell? ⟨eb, k, none⟩ = some (.int .i64 ((S : Int) + Z)) := by
        have := World.ownsRow.cellAt HC.out.ends k (by rw [HL.out]; omega)
        rw [endsV_get _ _ (List.getElem?_eq_some_iff.1 hok).1, hsk, hS, hZ] at this
        exact this
      have hcell := HC.out.cell
      rw [HL.out] at hcell
      obtain ⟨c0, c1, c2⟩ := hcell.three
      have hsm := HSm.out
      have hSZ : S + Z ≤ 4000 := by omega
      have hlZ : l < Z := by omega
      have HCm := Lib.hid (fun X hX => cut_round HP.out hok (F := F) (T := T) (X := X) hS hZ (by omega) (by omega) hlt' HFn.out hX)
      have HPc := Lib.hid (fun (m : Nat) (h2 : l < m) (h3 : m ≤ Z) (h4 : S + m ≤ T) => Dpiece_any HC.out HSc.out hM base hb k o B pc hpk (HR.out o (List.mem_of_getElem? hok)) S l m hS (by omega) h2 (by omega) (by rw [List.length_append]; omega))
      unfold PcPost at HPc
      have hFe : (S : Int) + l = F := by omega
      rw [hFe] at HPc
      have hE1 : (0 : Int) ≤ (S : Int) + Z := by omega
      have hE2 : (0 : Int) ≤ (S : Int) + Z := by omega
      have hk0 : (0 : Int) ≤ k := by omega
      have hk1 : (k : Int) < L := by omega
      have HLt := Lib.hid HH.out.lt
      have HSz := Lib.hid (show w.heap.size ≤ wr.heap.size from HFr.out.size)
      obtain ⟨rn, hrn⟩ : ∃ rn, rs.length = rn := ⟨_, rfl⟩
      have HRn := Lib.hid hrn
      rw [hrn] at HO hrl ⊢
      clear hpk hok hsk hpo hnn hmx hS1 hS2 hcell hsm hrn
      by_cases hc : S + Z ≤ T
      · have hc' : (S : Int) + Z ≤ T := by omega
        have HPp := Lib.hid (HPc.out Z hlZ (Nat.le_refl _) hc)
        have hcm := HCm.out ((S : Int) + Z) (by omega)
        (
          obtain ⟨hcm1, hcm2⟩ := hcm
          rw [show (F : Int) - S = l by omega, show ((S : Int) + Z) - S = Z by omega] at hcm1
          obtain ⟨so, hso⟩ : ∃ so, subO o l Z = so := ⟨_, rfl⟩
          rw [hso] at hcm1 HPp
          have HCa := Lib.hid hcm1
          have HCb := Lib.hid hcm2
          have HQ1 := Lib.hid hl'
          have HQ2 := Lib.hid (show l < Z ∧ (S + Z) = S + Z by omega)
          have HQ3 := Lib.hid hT
          clear hcm1 hcm2 hso HPc HCm hl' hFe hS hZ hT hE1
          go_wp2_with (first
            | (go_at_call 63; refine HPp.out.mono ?_; rintro e w2 ⟨B2, d2, R2, rfl, in2, len2, ctr2, fr2⟩; have HIn2 := Lib.hid in2; have HCt2 := Lib.hid ctr2; have HF2 := Lib.hid fr2; have HLn2 := Lib.hid len2
               have HO2 := Lib.hid (own_fr HO.out fr2 (fun k hk e => by have := World.ownsRow.lt HO.out k hk; have := HLt.out; omega))
               have HSr := Lib.hid (fun wx => src_op wx 22 57 Try.underlying22 ⟨so, B2, d2⟩)
               have HS2 := Lib.hid fr2.size
               clear in2 len2 ctr2 fr2)
            | (at_builtin; refine wpList_append_row _ rfl (.tmp 31) (.tmp 37) 22 22 rfl w.heap.size 57 i0 (.agg zeroO) 4 48 Try.underlying22 gi gz0 gz1 gz2 rfl _ rn _ rfl (HO2.out.alloc _) _ 1 _ rfl (HSr.out _) (by unfold maxLen; omega) (by omega) (by have := HSz.out; have := HS2.out; simp; omega) ?_
               intro v3 w3 o3 g3 at3
               have HO3 := Lib.hid o3
               have HF3 := Lib.hid (show Fr (fun j => Value.ownBlock (.slice Av rn cv) = some j) w2 w3 from ((Fr.refl _ w2).alloc _).grown g3 (fun j hj _ => hj))
               clear o3 g3 at3))
          go_roundw
          case rel =>
            have hlt := HLt.out
            have hq1 := HQ1.out
            have hq2 := HQ2.out
            have h4 : ∀ i, Value.ownBlock (.slice Av rn cv) = some i → w.heap.size ≤ i := fun i e => (World.ownsRow.lt HO.out _ e).1
            have h7 := HH.out.bel.size
            refine ⟨k + 1, (S + Z), _, rs ++ [⟨so, B2, d2⟩], R' ++ R2, by go_num, rfl, by go_num, by omega, by omega, by omega, by rw [List.length_append, HRn.out]; simp; omega, by rw [List.length_append]; have := HLn2.out; omega, Lib.hid ?_, Lib.hid ?_, HCb, Lib.hid ?_, Lib.hid ?_, Lib.hid ?_⟩
            · rw [List.length_append, flatP_append, flatP_one, HRn.out]
              exact HO3.out
            · have h5 := HI.out
              rw [HCa.out] at h5
              rw [opsO_append, ← h5, List.append_assoc]
              rfl
            · intro q hq
              rw [← List.append_assoc]
              rcases List.mem_append.1 hq with h6 | h6
              · exact (HIn.out q h6).more R2
              · rw [List.mem_singleton.1 h6]; exact HIn2.out
            · rw [← List.append_assoc]
              exact HCt2.out.fr HF3.out (fun j e => by have := h4 j e; omega) (fun e => by have := h4 _ e; omega) (fun e => by have := h4 _ e; omega) (fun k hk e => by have := h4 _ e; have := (World.ownsRow.lt HH.out.ends k (by rw [HL.out]; rw [HL.out] at hk; exact hk)).2; omega)
            · exact (HFr.out.trans HF2.out (fun _ _ e => e)).trans HF3.out (fun i hi e => by have := h4 i e; omega)
          case measure =>
            have hq1 := HQ1.out
            have hq2 := HQ2.out
            simp [intOf]
            omega)
      · have hc' : (T : Int) < (S : Int) + Z := by omega
        obtain ⟨m, hm⟩ : ∃ m : Nat, T = S + m := ⟨T - S, by omega⟩
        have hmT : (S : Int) + m = T := by omega
        have HPp := Lib.hid (HPc.out m (by omega) (by omega) (by omega))
        rw [hmT] at HPp
        have hcm := HCm.out (T : Int) (by omega)
        (
          obtain ⟨hcm1, hcm2⟩ := hcm
          rw [show (F : Int) - S = l by omega, show (T : Int) - S = m by omega] at hcm1
          obtain ⟨so, hso⟩ : ∃ so, subO o l m = so := ⟨_, rfl⟩
          rw [hso] at hcm1 HPp
          have HCa := Lib.hid hcm1
          have HCb := Lib.hid hcm2
          have HQ1 := Lib.hid hl'
          have HQ2 := Lib.hid (show l < m ∧ T = S + m by omega)
          have HQ3 := Lib.hid hT
          clear hcm1 hcm2 hso HPc HCm hl' hFe hS hZ hT hm hmT
          go_wp2_with (first
            | (go_at_call 63; refine HPp.out.mono ?_; rintro e w2 ⟨B2, d2, R2, rfl, in2, len2, ctr2, fr2⟩; have HIn2 := Lib.hid in2; have HCt2 := Lib.hid ctr2; have HF2 := Lib.hid fr2; have HLn2 := Lib.hid len2
               have HO2 := Lib.hid (own_fr HO.out fr2 (fun k hk e => by have := World.ownsRow.lt HO.out k hk; have := HLt.out; omega))
               have HSr := Lib.hid (fun wx => src_op wx 22 57 Try.underlying22 ⟨so, B2, d2⟩)
               have HS2 := Lib.hid fr2.size
               clear in2 len2 ctr2 fr2)
            | (at_builtin; refine wpList_append_row _ rfl (.tmp 31) (.tmp 37) 22 22 rfl w.heap.size 57 i0 (.agg zeroO) 4 48 Try.underlying22 gi gz0 gz1 gz2 rfl _ rn _ rfl (HO2.out.alloc _) _ 1 _ rfl (HSr.out _) (by unfold maxLen; omega) (by omega) (by have := HSz.out; have := HS2.out; simp; omega) ?_
               intro v3 w3 o3 g3 at3
               have HO3 := Lib.hid o3
               have HF3 := Lib.hid (show Fr (fun j => Value.ownBlock (.slice Av rn cv) = some j) w2 w3 from ((Fr.refl _ w2).alloc _).grown g3 (fun j hj _ => hj))
               clear o3 g3 at3))
          go_roundw
          case rel =>
            have hlt := HLt.out
            have hq1 := HQ1.out
            have hq2 := HQ2.out
            have h4 : ∀ i, Value.ownBlock (.slice Av rn cv) = some i → w.heap.size ≤ i := fun i e => (World.ownsRow.lt HO.out _ e).1
            have h7 := HH.out.bel.size
            refine ⟨k + 1, T, _, rs ++ [⟨so, B2, d2⟩], R' ++ R2, by go_num, rfl, by go_num, by omega, by omega, by omega, by rw [List.length_append, HRn.out]; simp; omega, by rw [List.length_append]; have := HLn2.out; omega, Lib.hid ?_, Lib.hid ?_, HCb, Lib.hid ?_, Lib.hid ?_, Lib.hid ?_⟩
            · rw [List.length_append, flatP_append, flatP_one, HRn.out]
              exact HO3.out
            · have h5 := HI.out
              rw [HCa.out] at h5
              rw [opsO_append, ← h5, List.append_assoc]
              rfl
            · intro q hq
              rw [← List.append_assoc]
              rcases List.mem_append.1 hq with h6 | h6
              · exact (HIn.out q h6).more R2
              · rw [List.mem_singleton.1 h6]; exact HIn2.out
            · rw [← List.append_assoc]
              exact HCt2.out.fr HF3.out (fun j e => by have := h4 j e; omega) (fun e => by have := h4 _ e; omega) (fun e => by have := h4 _ e; omega) (fun k hk e => by have := h4 _ e; have := (World.ownsRow.lt HH.out.ends k (by rw [HL.out]; rw [HL.out] at hk; exact hk)).2; omega)
            · exact (HFr.out.trans HF2.out (fun _ _ e => e)).trans HF3.out (fun i hi e => by have := h4 i e; omega)
          case measure =>
            have hq1 := HQ1.out
            have hq2 := HQ2.out
            simp [intOf]
            omega)
    · obtain rfl : F = T := by omega
      have HE := Lib.hid (show opsO rs = cutR (opsO ps) f F from by
        have h5 := HI.out
        rwa [cutR_empty _ _ _ (Int.le_refl _), List.append_nil] at h5)
      have HRn := Lib.hid (show F = f + n by omega)
      clear hT
      go_wp2_with fail
      go_ret
      refine ⟨_, rs, R', rfl, HO.out, HE.out, HIn.out, by have := HRn.out; omega, by have := HRn.out; omega, HC.out, HFr.out⟩
end Go.Proofs.Ythjfkeploofblaa

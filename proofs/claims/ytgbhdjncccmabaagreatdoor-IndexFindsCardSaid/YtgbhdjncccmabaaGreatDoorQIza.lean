/- What is proved: texts that stand one behind the other: Iza Izb Izc Iyp Izs Izd. Conditions: each theorem names its own. -/
import Derived.Test.YtgbhdjncccmabaaGreatDoorIxo
import Derived.Test.YtgbhdjncccmabaaGreatDoorQIyh
import Derived.Test.YtgbhdjncccmabaaGreatDoorIxe
import Derived.Test.YtgbhdjncccmabaaGreatDoorQIyl
import Derived.Test.YtgbhdjncccmabaaGreatDoorQIxu
/- What is proved: Begins of an index by the program: the ids that fit. Conditions: its cells are there, its ids rise. -/
namespace Go.Proofs.YtgbhdjncccmabaaGreatDoor
open Go.RowKit
set_option linter.unusedVariables false

theorem found_some (L : Nat) (p : Nat → Bool) : ∃ m, Found L p m := by
  refine ⟨(List.range L).findIdx p, ?_, fun i hi => ?_, fun h => ?_⟩
  · have : (List.range L).findIdx p ≤ (List.range L).length := List.findIdx_le_length
    rwa [List.length_range] at this
  · have := List.not_of_lt_findIdx (p := p) (xs := List.range L) (i := i) hi
    simpa using this
  · have := List.findIdx_getElem (p := p) (xs := List.range L) (w := by rw [List.length_range]; exact h)
    simpa using this
theorem range_fit (ns : List Nat) (a : Nat) (N : Int) (hr : ris ns) (i : Nat) (hi : i < ns.length) : fitB a N (gt ns i) = decide (rgA ns a N ≤ i ∧ i < rgB ns a N) ∧ rgB ns a N ≤ ns.length := by
  by_cases hright : rightB a N = true
  · have hrb := (risB_iff ns).2 hr
    rw [rgA, rgB, if_pos ⟨hright, hrb⟩, if_pos ⟨hright, hrb⟩]
    obtain ⟨m, hm⟩ := found_some (ns.length - posN ns a) (fun i => !fitB a N (gt ns (posN ns a + i)))
    have hc := range_count ns a N m hr hm
    rw [hc]
    have hp := pos_le ns a
    have hle := hm.le
    refine ⟨?_, by omega⟩
    by_cases c : posN ns a ≤ i ∧ i < posN ns a + m
    · rw [decide_eq_true c]
      have := hm.below (i - posN ns a) (by omega)
      simpa [show posN ns a + (i - posN ns a) = i by omega] using this
    · rw [decide_eq_false c]
      cases hf : fitB a N (gt ns i) with
      | false => rfl
      | true =>
        exfalso
        have h1 := fit_ge hf
        rcases Nat.lt_or_ge i (posN ns a) with h2 | h2
        · have := pos_below ns a i h2
          omega
        · have h3 := hm.here (by omega)
          have h4 : gt ns (posN ns a + m) ≤ gt ns i := by
            rcases Nat.lt_or_ge (posN ns a + m) i with h5 | h5
            · exact Nat.le_of_lt (hr _ _ h5 hi)
            · rw [show i = posN ns a + m by omega]
              exact Nat.le_refl _
          have h5 := fit_between hf (pos_above' ns hr a (posN ns a + m) (by omega) (by omega)) h4
          rw [h5] at h3
          cases h3
  · have hright' : rightB a N = false := by simpa using hright
    rw [rgA, rgB, if_neg (fun h => hright h.1), if_neg (fun h => hright h.1), fitB_not a N _ hright']
    exact ⟨(decide_eq_false (by omega)).symm, by omega⟩
theorem filter_part (ns : List Nat) (p : Nat → Bool) (lo hi : Nat) (h1 : lo ≤ hi) (h2 : hi ≤ ns.length) (h : ∀ i, i < ns.length → p (gt ns i) = decide (lo ≤ i ∧ i < hi)) : (ns.drop lo).take (hi - lo) = ns.filter p := by
  have e : ns = ns.take lo ++ ((ns.drop lo).take (hi - lo) ++ (ns.drop lo).drop (hi - lo)) := by rw [List.take_append_drop, List.take_append_drop]
  have g : ∀ i (hi : i < ns.length), ns[i] = gt ns i := fun i hi => by rw [gt, List.getD_eq_getElem?_getD, List.getElem?_eq_getElem hi]; rfl
  have f1 : (ns.take lo).filter p = [] := by
    rw [List.filter_eq_nil_iff]
    intro a ha
    obtain ⟨i, hi1, rfl⟩ := List.getElem_of_mem ha
    rw [List.length_take] at hi1
    rw [List.getElem_take, g i (by omega), h i (by omega)]
    simp; omega
  have f2 : ((ns.drop lo).take (hi - lo)).filter p = (ns.drop lo).take (hi - lo) := by
    rw [List.filter_eq_self]
    intro a ha
    obtain ⟨i, hi1, rfl⟩ := List.getElem_of_mem ha
    rw [List.length_take, List.length_drop] at hi1
    rw [List.getElem_take, List.getElem_drop, g (lo + i) (by omega), h (lo + i) (by omega)]
    simp; omega
  have f3 : ((ns.drop lo).drop (hi - lo)).filter p = [] := by
    rw [List.filter_eq_nil_iff]
    intro a ha
    obtain ⟨i, hi1, rfl⟩ := List.getElem_of_mem ha
    rw [List.length_drop, List.length_drop] at hi1
    rw [List.getElem_drop, List.getElem_drop, g _ (by omega), h _ (by omega)]
    simp; omega
  conv => rhs; rw [e, List.filter_append, List.filter_append, f1, f2, f3, List.nil_append, List.append_nil]
theorem rg_filter (ns : List Nat) (a : Nat) (N : Int) (hr : ris ns) : rgA ns a N ≤ rgB ns a N ∧ rgB ns a N ≤ ns.length ∧ (ns.drop (rgA ns a N)).take (rgB ns a N - rgA ns a N) = ns.filter (fitB a N) := by
  have h1 : rgA ns a N ≤ rgB ns a N := by unfold rgA rgB; split <;> omega
  have h2 : rgB ns a N ≤ ns.length := by
    rcases Nat.eq_zero_or_pos ns.length with h0 | h0
    · have : ns = [] := List.eq_nil_of_length_eq_zero h0
      subst this
      unfold rgB posN
      split <;> simp
    · exact (range_fit ns a N hr 0 h0).2
  exact ⟨h1, h2, filter_part ns _ _ _ h1 h2 (fun i hi => (range_fit ns a N hr i hi).1)⟩
theorem slice_idr (A : Option Addr) (n c lo hi : Nat) (h1 : lo ≤ hi) (h2 : hi ≤ c) (w : World) : (Instr.slice 51 (.slice A n c) (some (.int .i64 lo)) (some (.int .i64 hi)) none).run Tryz.prog w = .ok (.slice (tlA A c lo) (hi - lo) (c - lo)) w := by
  have hs : (sizeOf (Tryz.prog.elem 51)).run Tryz.prog w = .ok 32 w := by kernel_rfl
  have ht : Tryz.prog.underlying 51 = some (.slice (Tryz.prog.elem 51)) := by kernel_rfl
  have e := run_slice_lh (P := Tryz.prog) w 51 A n c ht .i64 .i64 (lo : Int) (hi : Int) (by omega) (by omega) (by omega)
  rw [e, hs]
  simp [sliced, tlA]

set_option maxHeartbeats 3200000 in
set_option maxRecDepth 100000 in
theorem IBegins_any (X n : Nat) (A1 A2 A3 : Option Addr) (c1 c2 c3 : Nat) (f ks ss ts : Nat → Nat) (of : Nat) (a : Nat) (N : Int) (h0 : -9223372036854775808 ≤ N) (h1 : N ≤ 9223372036854775807) (ha : a < big) (hn : n ≤ 1000) (hb : ∀ m ∈ keyL n ks, m < big) (hr : ris (keyL n ks)) (w : World) (h : IX w X n A1 c1 A2 c2 A3 c3 f ks ss ts of) :
    Calls Tryz.prog 13 #[.pointer (some ⟨X, 0, none⟩), .agg (pfC (dgt a) N)] w fun e w' => ∃ A c, e = .returned (.slice A ((keyL n ks).filter (fitB a N)).length c) ∧ Lies w' A (flatI ((keyL n ks).filter (fitB a N))) ∧ Fr (fun _ => False) w w' := by
  obtain ⟨w0, hw0⟩ : ∃ w0, w.alloc (.cells (pfC (dgt a) N) 26) = w0 := ⟨_, rfl⟩
  have hF0 : Fr (fun _ => False) w w0 := by subst hw0; exact (Fr.refl _ w).alloc _
  have hP : Whole w0 w.heap.size 26 (pfC (dgt a) N) := by subst hw0; exact Whole.new w 26 _
  have HF0 := Lib.hid hF0
  have HID := Lib.hid (Iids_any X n A1 A2 A3 c1 c2 c3 f ks ss ts of hn w0 (h.fr hF0))
  unfold IdsPost at HID
  have hps := pfC_size (dgt a) N
  have HRG := Lib.hid (fun w' A c hl => ORange_any A c (keyL n ks) a N h0 h1 hb ha (by rw [keyL_len]; exact hn) w' hl)
  have hrf := rg_filter (keyL n ks) a N hr
  rw [keyL_len] at HID HRG hrf
  obtain ⟨TP, hTP⟩ : ∃ T : TypeId, T = 26 := ⟨_, rfl⟩
  obtain ⟨n33, h33⟩ : ∃ n : Nat, n = 33 := ⟨_, rfl⟩
  have agP : ∀ w, (isAgg TP).run Tryz.prog w = .ok true w := by rw [hTP]; exact fun _ => by kernel_rfl
  have szP : ∀ w, (sizeOf TP).run Tryz.prog w = .ok n33 w := by rw [hTP, h33]; exact fun _ => by kernel_rfl
  have HLP := Lib.hid (show ∀ w', Fr (fun _ => False) w0 w' → (loadCellsFrom ⟨w.heap.size, 0, none⟩ 0 n33 #[]).run Tryz.prog w' = .ok (pfC (dgt a) N) w' from fun w' f => load_wholeQ (hP.fr f (fun e => e)) n33 (by rw [h33, hps]))
  obtain ⟨lo, hlo⟩ : ∃ l, rgA (keyL n ks) a N = l := ⟨_, rfl⟩
  obtain ⟨hi, hhi⟩ : ∃ l, rgB (keyL n ks) a N = l := ⟨_, rfl⟩
  rw [hlo, hhi] at HRG hrf
  obtain ⟨hlh, hhn, hfl⟩ := hrf
  have hlen : ((keyL n ks).filter (fitB a N)).length = hi - lo := by rw [← hfl, List.length_take, List.length_drop, keyL_len]; omega
  have HFL := Lib.hid hfl
  have HLN := Lib.hid hlen
  have HKL := Lib.hid (keyL_len n ks)
  obtain ⟨cp, hcp⟩ : ∃ c, pfC (dgt a) N = c := ⟨_, rfl⟩
  rw [hcp] at hw0 HRG HLP ⊢
  obtain ⟨d, hd⟩ : ∃ d, hi - lo = d := ⟨_, rfl⟩
  obtain ⟨c9, hc9⟩ : ∃ d, n - lo = d := ⟨_, rfl⟩
  have hsl : ∀ G w, (Instr.slice 51 (.slice (some ⟨G, 0, none⟩) n n) (some (.int .i64 lo)) (some (.int .i64 hi)) none).run Tryz.prog w = .ok (.slice (tlA (some ⟨G, 0, none⟩) n lo) d c9) w := fun G w => by rw [← hd, ← hc9]; exact slice_idr _ n n lo hi hlh hhn w
  have HDd := Lib.hid hd
  have hlz : (lo : Int) ≤ hi := by omega
  clear hF0 hP hps hlo hhi hfl hlen hcp hd hc9 h33 h hr hb ha h0 h1
  go_enter Tryz.func13, Tryz.ntmps13
  rw [show Op.load 26 (.tmp 3) = Op.load TP (.tmp 3) by rw [hTP]]
  clear hTP
  go_upto_region 2 with (go_at_call 26; refine HID.out.mono ?_; rintro e w1 ⟨G, rfl, wg, -, f1⟩; have HF1 := Lib.hid f1; have HWG := Lib.hid wg; have l1 := HLP.out w1 f1; clear f1 wg)
  go_upto_region 3 with (go_at_call 38; refine (HRG.out w1 (some ⟨G, 0, none⟩) n HWG.out.list).mono ?_; rintro e w2 ⟨rfl, b2⟩; have HB2 := Lib.hid b2; clear b2)
  have hs2 := hsl G
  clear hsl
  obtain ⟨TA, hTA⟩ : ∃ T, tlA (some (⟨G, 0, none⟩ : Addr)) n lo = T := ⟨_, rfl⟩
  rw [hTA] at hs2
  have HTA := Lib.hid hTA
  clear hTA
  go_wp2_with fail
  go_ret
  refine ⟨TA, c9, by rw [HLN.out, HDd.out]; rfl, ?_, (HF0.out.trans HF1.out (fun _ _ e => e)).then_below HB2.out⟩
  have hl := (HWG.out.list).fr (Fr.of_below (S := fun _ => False) HB2.out) (fun _ _ e => e)
  have ht := hl.tl n lo (by rw [HKL.out]; exact Nat.le_refl _)
  rw [HTA.out] at ht
  have := ht.take ((hi - lo) * 32)
  rw [← flatI_take, HFL.out] at this
  exact this
end Go.Proofs.YtgbhdjncccmabaaGreatDoor
/- What is proved: Find and Begins of the document. Conditions: the places' cells are there, their ids are ids. -/
namespace Go.Proofs.YtgbhdjncccmabaaGreatDoor
open Go.RowKit
set_option linter.unusedVariables false

theorem build_zqp (w : World) : (Instr.build 46 #[]).run Tryz.prog w = .ok (.agg zeroPl) w := by kernel_rfl
theorem fnd_at {b : List UInt8} (ho : opE b = 0) (k : Nat) (hk : k < nB b) : hasN (idsB b) ((plsB b)[k]!).id = true ∧ fndB b ((plsB b)[k]!).id = (plsB b)[k]! := by
  obtain ⟨-, -, h3, -, -⟩ := opE_ok ho
  have hg : gt (idsB b) k = ((plsB b)[k]!).id := by
    have := idsP_gt (plsB b) k (by rw [plsB_len]; exact hk)
    rwa [idsP_plsB] at this
  have hh := has_gt h3 (j := k) (by rw [idsB_len]; exact hk)
  rw [hg] at hh
  exact ⟨hh.2, by unfold fndB; rw [if_pos hh.2, hh.1]⟩
theorem fnd_not {b : List UInt8} (x : Nat) (h : ∀ j, j < nB b → ((plsB b)[j]!).id ≠ x) : hasN (idsB b) x = false ∧ fndB b x = ⟨0, 0, 0⟩ := by
  have hf : hasN (idsB b) x = false := by
    cases hh : hasN (idsB b) x
    · rfl
    · have h1 := of_decide_eq_true hh
      rw [idsB_len] at h1
      have := idsP_gt (plsB b) (posN (idsB b) x) (by rw [plsB_len]; exact h1.1)
      rw [idsP_plsB, h1.2] at this
      exact absurd this.symm (h _ h1.1)
  exact ⟨hf, by unfold fndB; rw [hf]; rfl⟩

set_option maxHeartbeats 6400000 in
set_option maxRecDepth 100000 in
theorem QIFind_b (b : List UInt8) (ho : opE b = 0) (A : Option Addr) (c of x : Nat) (hx : x < big) (hn : nB b ≤ 600) (w : World) (h : Lies w A (flatP (plsB b))) :
    Calls Tryz.prog 10 #[.agg (qixC (.slice A (nB b) c) (idC (dgt of))), .agg (idC (dgt x))] w fun e w' => e = .returned (.tuple #[.agg (fndB b x).cells, .bool (hasN (idsB b) x)]) ∧ Fr (fun _ => False) w w' := by
  obtain ⟨w0, hw0⟩ : ∃ w0, w.alloc (.cells (qixC (.slice A (nB b) c) (idC (dgt of))) 38) = w0 := ⟨_, rfl⟩
  obtain ⟨w1, hw1⟩ : ∃ w1, w0.alloc (.cells (idC (dgt x)) 24) = w1 := ⟨_, rfl⟩
  obtain ⟨w2, hw2⟩ : ∃ w2, w1.alloc (.cells zeroPl 46) = w2 := ⟨_, rfl⟩
  have hF0 : Fr (fun _ => False) w w0 := by subst hw0; exact (Fr.refl _ w).alloc _
  have hF1 : Fr (fun _ => False) w0 w1 := by subst hw1; exact (Fr.refl _ w0).alloc _
  have hF2 : Fr (fun _ => False) w1 w2 := by subst hw2; exact (Fr.refl _ w1).alloc _
  have HY := Lib.hid (show Whole w2 w.heap.size 38 (qixC (.slice A (nB b) c) (idC (dgt of))) from by subst hw0; exact ((Whole.new w 38 _).fr hF1 (fun e => e)).fr hF2 (fun e => e))
  have HX := Lib.hid (show Whole w2 w0.heap.size 24 (idC (dgt x)) from by subst hw1; exact (Whole.new w0 24 _).fr hF2 (fun e => e))
  have HR := Lib.hid (show Whole w2 w1.heap.size 46 zeroPl from by subst hw2; exact Whole.new w1 46 _)
  have HF := Lib.hid ((hF0.trans hF1 (fun _ _ e => e)).trans hF2 (fun _ _ e => e))
  have HSZ := Lib.hid (show w.heap.size ≤ w1.heap.size from Nat.le_trans hF0.size hF1.size)
  have HLI := Lib.hid (h.fr HF.out (fun _ _ e => e))
  have HPL := Lib.hid (plsB_len b)
  have HPO := Lib.hid (plsB_ok b)
  have HFA := Lib.hid (fun k hk => fnd_at ho k hk)
  have HFN := Lib.hid (fun hh => fnd_not (b := b) x hh)
  obtain ⟨T32, hT32⟩ : ∃ T : TypeId, T = 24 := ⟨_, rfl⟩
  obtain ⟨n32, hn32⟩ : ∃ n : Nat, n = 32 := ⟨_, rfl⟩
  have ag32 : ∀ w, (isAgg T32).run Tryz.prog w = .ok true w := by rw [hT32]; exact fun _ => by kernel_rfl
  have sz32 : ∀ w, (sizeOf T32).run Tryz.prog w = .ok n32 w := by rw [hT32, hn32]; exact fun _ => by kernel_rfl
  have HN32 := Lib.hid hn32
  obtain ⟨T34, hT34⟩ : ∃ T : TypeId, T = 46 := ⟨_, rfl⟩
  obtain ⟨n34, hn34⟩ : ∃ n : Nat, n = 34 := ⟨_, rfl⟩
  have ag34 : ∀ w, (isAgg T34).run Tryz.prog w = .ok true w := by rw [hT34]; exact fun _ => by kernel_rfl
  have sz34 : ∀ w, (sizeOf T34).run Tryz.prog w = .ok n34 w := by rw [hT34, hn34]; exact fun _ => by kernel_rfl
  have HN34 := Lib.hid hn34
  have HIS := Lib.hid (idC_size (dgt x))
  have CY : Hid (∀ wq, Fr (fun _ => False) w2 wq → wq.cell? ⟨w.heap.size, 0, none⟩ = some (.slice A (nB b) c)) := Lib.hid (fun wq f => by rw [(HY.out.fr f (fun e => e)).cell]; exact qixC_at _ _)
  have LX : Hid (∀ wq, Fr (fun _ => False) w2 wq → (loadCellsFrom ⟨w0.heap.size, 0, none⟩ 0 n32 #[]).run Tryz.prog wq = .ok (idC (dgt x)) wq) := Lib.hid (fun wq f => load_wholeQ (HX.out.fr f (fun e => e)) n32 (by rw [HN32.out, HIS.out]))
  have HEQ := Lib.hid (fun (p : Pl) (hp : p.id < big) w => eq_nums p.id x hp hx w)
  have HBZ := Lib.hid build_zqp
  have HZP := Lib.hid zpl
  obtain ⟨n, hnd⟩ : ∃ n, nB b = n := ⟨_, rfl⟩
  rw [hnd] at hw0 HPL HFA HFN CY hn ⊢
  obtain ⟨cx, hcx⟩ : ∃ c, idC (dgt x) = c := ⟨_, rfl⟩
  rw [hcx] at hw1 LX HEQ ⊢
  obtain ⟨qc, hqc⟩ : ∃ q, qixC (.slice A n c) (idC (dgt of)) = q := ⟨_, rfl⟩
  rw [hqc] at hw0 ⊢
  have HZS : Hid (zeroPl.size = 34) := Lib.hid rfl
  unfold zeroPl at hw2
  simp [List.replicate] at hw2
  clear hF0 hF1 hF2 h hn32 hn34 hnd hcx hqc hx ho
  go_enter Tryz.func10, Tryz.ntmps10
  rw [show Op.load 24 (.tmp 18) = Op.load T32 (.tmp 18) by rw [hT32], show Op.load 24 (.tmp 3) = Op.load T32 (.tmp 3) by rw [hT32], show Op.load 46 (.tmp 25) = Op.load T34 (.tmp 25) by rw [hT34]]
  clear hT32 hT34
  go_wp2_with fail
  go_loopg [6] n (fun kx s6 wr => ∃ k : Nat, s6 = .int .i64 k ∧ k ≤ n ∧ n - k ≤ kx ∧ Hid (∀ j, j < k → ((plsB b)[j]!).id ≠ x) ∧ Hid (Fr (fun _ => False) w2 wr))
  case atStart => exact ⟨0, rfl, by omega, by omega, Lib.hid (fun j hj => by omega), Lib.hid (Fr.refl _ _)⟩
  case round =>
    obtain ⟨k, rfl, hk, hkx, hz, HFr⟩ := hrel
    obtain ⟨wo, rfl⟩ : ∃ wo, wo = wr := ⟨wr, rfl⟩
    have wk := wrap_nat k (by omega)
    have hcy := CY.out wo HFr.out
    by_cases hlt : k < n
    · have hltz : (k : Int) < n := by omega
      have hk0 : (0 : Int) ≤ k := by omega
      obtain ⟨b2, o2, hA⟩ := HLI.out.someP (by rw [HPL.out]; omega)
      subst hA
      have hg := some_pl (ps := plsB b) (i := k) (by rw [HPL.out]; exact hlt)
      have hpo := HPO.out _ (List.mem_of_getElem? hg)
      have l1 : ∀ q : Later wo, (loadCellsFrom ⟨b2, o2 + k * 34, none⟩ 0 n32 #[]).run Tryz.prog q.w' = .ok (idC (dgt ((plsB b)[k]!).id)) q.w' := fun q => load_plid HLI.out hg (HFr.out.trans q.fr (fun _ _ e => e)) n32 HN32.out
      have l2 : ∀ q : Later wo, (loadCellsFrom ⟨w0.heap.size, 0, none⟩ 0 n32 #[]).run Tryz.prog q.w' = .ok cx q.w' := fun q => LX.out _ (HFr.out.trans q.fr (fun _ _ e => e))
      have cy : ∀ q : Later wo, q.w'.cell? ⟨w.heap.size, 0, none⟩ = some (.slice (some ⟨b2, o2, none⟩) n c) := fun q => CY.out _ (HFr.out.trans q.fr (fun _ _ e => e))
      have HLP := Lib.hid (fun wq (f : Fr (fun _ => False) w2 wq) => load_pl HLI.out hg f n34 HN34.out)
      have heq := HEQ.out _ hpo.id
      have HFA2 := Lib.hid (HFA.out k hlt)
      have HPS := Lib.hid (plC_size (plsB b)[k]!)
      have HPW := Lib.hid (plC_one (plsB b)[k]!)
      obtain ⟨p, hp⟩ : ∃ p, (plsB b)[k]! = p := ⟨_, rfl⟩
      rw [hp] at l1 HLP heq HFA2 HPS HPW
      have HPd := Lib.hid hp
      obtain ⟨ci, hci⟩ : ∃ c, idC (dgt p.id) = c := ⟨_, rfl⟩
      rw [hci] at l1 heq
      clear hg hpo hp hci
      by_cases hxe : p.id = x
      · rw [show (p.id == x) = true from by simpa using hxe] at heq
        obtain ⟨pc, hpc⟩ : ∃ c, p.cells = c := ⟨_, rfl⟩
        rw [hpc] at HLP HPS HPW
        have HPC := Lib.hid hpc
        have HXE := Lib.hid hxe
        clear hxe hpc
        go_upto_region 4 with fail
        refine wp_region_later (w0 := wo) (Fr.refl _ _) (by kernel_rfl) (by kernel_rfl) ?_
        repeat (quiet_step (fail))
        refine wpQuiet_nil ?_
        intro _ hw'
        obtain ⟨q, hw''⟩ := hw'
        subst hw''
        have HFq := Lib.hid (HFr.out.trans q.fr (fun _ _ e => e))
        have hcq := cy q
        have lp := HLP.out q.w' HFq.out
        clear l1 l2 cy hcy heq
        go_wp2_with (refine wpList_store_at rfl 46 _ _ rfl w1.heap.size 0 46 zeroPl pc rfl rfl (HR.out.fr HFq.out (fun e => e)) (by rw [HPS.out]; decide) (by rw [HPS.out]; exact size_q) HPW.out ?_; intro w3 hw3 hf3; rw [laidAt_all _ _ (by rw [HPS.out]; rfl)] at hw3; have HW3 := Lib.hid hw3; have HF3 := Lib.hid hf3; clear hw3 hf3)
        (try simp only [Exit.inBlock, Exit.then])
        refine bodyPost_ret (v := .tuple #[.agg pc, .bool true]) (results_cell_slot (p := 4) (u := 5) rfl _ _ _ _ _ _ rfl HW3.out Tryz.underlying46 rfl (by rw [HPS.out]; exact size_q)) rfl ?_
        refine ⟨?_, (HF.out.trans HFq.out (fun _ _ e => e)).trans HF3.out (fun i hi e => by have := HSZ.out; omega)⟩
        have h9 := HFA2.out
        rw [HXE.out] at h9
        rw [h9.1, h9.2, HPC.out]
      · rw [show (p.id == x) = false from by simpa using hxe] at heq
        have HXE := Lib.hid hxe
        clear hxe
        go_upto_region 4 with fail
        refine wp_region_later (w0 := wo) (Fr.refl _ _) (by kernel_rfl) (by kernel_rfl) ?_
        repeat (quiet_step (fail))
        refine wpQuiet_nil ?_
        intro _ hw'
        obtain ⟨q, hw''⟩ := hw'
        subst hw''
        clear l1 l2 cy hcy heq
        go_wp2_with fail
        go_roundg (n - (k + 1))
        case measure => omega
        case rel => exact ⟨k + 1, by go_num, by omega, Nat.le_refl _, Lib.hid (fun j hj => (by omega : j < k ∨ j = k).elim (hz.out j) (fun e => by subst e; rw [HPd.out]; exact HXE.out)), Lib.hid (HFr.out.trans q.fr (fun _ _ e => e))⟩
    · have hltz : ¬ ((k : Int) < n) := by omega
      obtain rfl : n = k := by omega
      have HNO := Lib.hid (HFN.out hz.out)
      obtain ⟨ZP, hZP⟩ : ∃ Z, zeroPl = Z := ⟨_, rfl⟩
      rw [hZP] at HR HBZ HZP HZS
      have HZO := Lib.hid (show ZP.all (·.oneCell') = true from by rw [← hZP, ← zpl]; exact plC_one _)
      clear hZP
      go_wp2_with (first
        | (refine wpList_build_toQ rfl 46 _ rfl #[] (by first | rfl | simp [Act.eval]) (.agg ZP) (HBZ.out _) ?_)
        | (refine wpList_store_at rfl 46 _ _ rfl w1.heap.size 0 46 ZP ZP rfl rfl (HR.out.fr HFr.out (fun e => e)) (by rw [HZS.out]; decide) (by rw [HZS.out]; exact size_q) HZO.out ?_; intro w3 hw3 hf3; rw [laidAt_all _ _ rfl] at hw3; have HW3 := Lib.hid hw3; have HF3 := Lib.hid hf3; clear hw3 hf3))
      (try simp only [Exit.inBlock, Exit.then])
      refine bodyPost_ret (v := .tuple #[.agg ZP, .bool false]) (results_cell_slot (p := 4) (u := 5) rfl _ _ _ _ _ _ rfl HW3.out Tryz.underlying46 rfl (by rw [HZS.out]; exact size_q)) rfl ?_
      exact ⟨by rw [HNO.out.1, HNO.out.2, HZP.out], (HF.out.trans HFr.out (fun _ _ e => e)).trans HF3.out (fun i hi e => by have := HSZ.out; omega)⟩
end Go.Proofs.YtgbhdjncccmabaaGreatDoor
/- What is proved: Begins of the document: the ids that fit, in order. Conditions: the places' cells are there, their ids are ids, at most 1000. -/
namespace Go.Proofs.YtgbhdjncccmabaaGreatDoor
open Go.RowKit
set_option linter.unusedVariables false

theorem build_oneZ (x : Nat) (w : World) : (Instr.buildSlice 51 1 #[(0, .agg (idC (dgt x)))]).run Tryz.prog w = .ok (.slice (some ⟨w.heap.size, 0, none⟩) 1 1) (w.alloc (.cells (idC (dgt x)) 24)) := by kernel_rfl
theorem src_cxZ (w : World) (n : Nat) (cx : Array Value) (hc : idC (dgt n) = cx) : Src Tryz.prog 32 51 (.slice (some ⟨w.heap.size, 0, none⟩) 1 1) 1 (flatI [n]) (w.alloc (.cells cx 24)) := by
  subst hc
  exact src_one32 w n
theorem flatI_appendZ (a b : List Nat) : flatI (a ++ b) = flatI a ++ flatI b := by simp [flatI]
theorem OwnI.growZ {w0 w w' : World} {v v' : Value} {ns : List Nat} {x n : Nat} (h : OwnI w0 w v ns) (hn : n = ns.length) (o : w'.ownsRow w0.heap.size 24 32 v' (n + 1) (flatI ns ++ flatI [x])) (g : w.grownBy w' v.ownBlock) : OwnI w0 w' v' (ns ++ [x]) := by
  refine ⟨?_, fr_append h.1 h.2 g⟩
  rw [List.length_append, flatI_appendZ, ← hn]
  exact o
theorem filter_snoc (p : Nat → Bool) (l : List Nat) (x : Nat) : (l ++ [x]).filter p = if p x then l.filter p ++ [x] else l.filter p := by
  rw [List.filter_append]
  cases h : p x <;> simp [h]

set_option maxHeartbeats 6400000 in
set_option maxRecDepth 100000 in
theorem QIBegins_any (ps : List Pl) (hid : ∀ p ∈ ps, p.id < big) (A : Option Addr) (c of a : Nat) (N : Int) (h0 : -9223372036854775808 ≤ N) (h1 : N ≤ 9223372036854775807) (ha : a < big) (hn : ps.length ≤ 1000) (w : World) (h : Lies w A (flatP ps)) :
    Calls Tryz.prog 14 #[.agg (qixC (.slice A ps.length c) (idC (dgt of))), .agg (idC (dgt a)), .int .i64 N] w fun e w' => ∃ v, e = .returned v ∧ OwnI w w' v ((idsP ps).filter (fitB a N)) := by
  obtain ⟨i0, hi, hz0, hz1, hz2⟩ := info_parts infoIDs
  obtain ⟨w0, hw0⟩ : ∃ w0, w.alloc (.cells (qixC (.slice A ps.length c) (idC (dgt of))) 38) = w0 := ⟨_, rfl⟩
  obtain ⟨w1, hw1⟩ : ∃ w1, w0.alloc (.cells (idC (dgt a)) 24) = w1 := ⟨_, rfl⟩
  have hF0 : Fr (fun _ => False) w w0 := by subst hw0; exact (Fr.refl _ w).alloc _
  have hF1 : Fr (fun _ => False) w0 w1 := by subst hw1; exact (Fr.refl _ w0).alloc _
  have HY := Lib.hid (show Whole w1 w.heap.size 38 (qixC (.slice A ps.length c) (idC (dgt of))) from by subst hw0; exact (Whole.new w 38 _).fr hF1 (fun e => e))
  have HX := Lib.hid (show Whole w1 w0.heap.size 24 (idC (dgt a)) from by subst hw1; exact Whole.new w0 24 _)
  have HF := Lib.hid (hF0.trans hF1 (fun _ _ e => e))
  have HLI := Lib.hid (h.fr HF.out (fun _ _ e => e))
  have HID := Lib.hid hid
  obtain ⟨T32, hT32⟩ : ∃ T : TypeId, T = 24 := ⟨_, rfl⟩
  obtain ⟨n32, hn32⟩ : ∃ n : Nat, n = 32 := ⟨_, rfl⟩
  have ag32 : ∀ w, (isAgg T32).run Tryz.prog w = .ok true w := by rw [hT32]; exact fun _ => by kernel_rfl
  have sz32 : ∀ w, (sizeOf T32).run Tryz.prog w = .ok n32 w := by rw [hT32, hn32]; exact fun _ => by kernel_rfl
  have HN32 := Lib.hid hn32
  have HIS := Lib.hid (idC_size (dgt a))
  have CY : Hid (∀ wq, Fr (fun _ => False) w1 wq → wq.cell? ⟨w.heap.size, 0, none⟩ = some (.slice A ps.length c)) := Lib.hid (fun wq f => by rw [(HY.out.fr f (fun e => e)).cell]; exact qixC_at _ _)
  have LX : Hid (∀ wq, Fr (fun _ => False) w1 wq → (loadCellsFrom ⟨w0.heap.size, 0, none⟩ 0 n32 #[]).run Tryz.prog wq = .ok (idC (dgt a)) wq) := Lib.hid (fun wq f => load_wholeQ (HX.out.fr f (fun e => e)) n32 (by rw [HN32.out, HIS.out]))
  have HFT := Lib.hid (fun x (hx : x < big) w => QFits_any a x ha hx N h0 h1 w)
  have HPI := Lib.hid (fun k (hk : k < ps.length) => (by
    have h2 : idsP (ps.take (k + 1)) = idsP (ps.take k) ++ [(ps[k]!).id] := by rw [take_pl ps k hk]; simp [idsP]
    rw [h2, filter_snoc] : (idsP (ps.take (k + 1))).filter (fitB a N) = _))
  have HPF := Lib.hid (fun k => (by
    have h1 := List.length_filter_le (fitB a N) (idsP (ps.take k))
    rw [idsP_len, List.length_take] at h1
    omega : ((idsP (ps.take k)).filter (fitB a N)).length ≤ ps.length))
  obtain ⟨L, hL⟩ : ∃ L, ps.length = L := ⟨_, rfl⟩
  have HLn := Lib.hid hL
  rw [hL] at hw0 CY HPI HPF hn ⊢
  obtain ⟨ca, hca⟩ : ∃ c, idC (dgt a) = c := ⟨_, rfl⟩
  rw [hca] at hw1 LX HFT ⊢
  obtain ⟨qc, hqc⟩ : ∃ q, qixC (.slice A L c) (idC (dgt of)) = q := ⟨_, rfl⟩
  rw [hqc] at hw0 ⊢
  clear hF0 hF1 h hn32 hL hca hqc hid ha h0 h1
  go_enter Tryz.func14, Tryz.ntmps14
  rw [show Op.load 24 (.tmp 4) = Op.load T32 (.tmp 4) by rw [hT32], show Op.load 24 (.tmp 22) = Op.load T32 (.tmp 22) by rw [hT32], show Op.load 24 (.tmp 30) = Op.load T32 (.tmp 30) by rw [hT32]]
  clear hT32
  go_wp2_with fail
  go_loopg [7, 8] L (fun kx s7 s8 wr => ∃ (k : Nat) (v : Value), v = s7 ∧ s8 = .int .i64 k ∧ k ≤ L ∧ L - k ≤ kx ∧ Hid (OwnI w1 wr v ((idsP (ps.take k)).filter (fitB a N))))
  case atStart => exact ⟨0, _, rfl, rfl, by omega, by omega, Lib.hid (OwnI.nil (Fr.refl _ _))⟩
  case round =>
    obtain ⟨k, v, rfl, rfl, hk, hkx, HO⟩ := hrel
    obtain ⟨wo, rfl⟩ : ∃ wo, wo = wr := ⟨wr, rfl⟩
    have wk := wrap_nat k (by omega)
    have HFr := Lib.hid HO.out.2
    have hcy := CY.out wo HFr.out
    by_cases hlt : k < L
    · have hltz : (k : Int) < L := by omega
      have hk0 : (0 : Int) ≤ k := by omega
      obtain ⟨b2, o2, hA⟩ := HLI.out.someP (by rw [HLn.out]; omega)
      subst hA
      have hg := some_pl (ps := ps) (i := k) (by rw [HLn.out]; exact hlt)
      have hpo := HID.out _ (List.mem_of_getElem? hg)
      have HLP := Lib.hid (fun wq (f : Fr (fun _ => False) w1 wq) => load_plid HLI.out hg f n32 HN32.out)
      have hft := HFT.out _ hpo
      have hpi := HPI.out k hlt
      have hpf := HPF.out k
      obtain ⟨x, hx⟩ : ∃ x, (ps[k]!).id = x := ⟨_, rfl⟩
      rw [hx] at HLP hft hpi
      obtain ⟨fb, hfb⟩ : ∃ f, fitB a N x = f := ⟨_, rfl⟩
      rw [hfb] at hft hpi
      have HBO := Lib.hid (fun w => build_oneZ x w)
      obtain ⟨cx, hcx⟩ : ∃ c, idC (dgt x) = c := ⟨_, rfl⟩
      rw [hcx] at HLP hft HBO
      have HCX := Lib.hid hcx
      obtain ⟨F, hF⟩ : ∃ F, (idsP (ps.take k)).filter (fitB a N) = F := ⟨_, rfl⟩
      rw [hF] at HO hpi hpf
      have HPI2 := Lib.hid hpi
      obtain ⟨m, hm⟩ : ∃ m, F.length = m := ⟨_, rfl⟩
      rw [hm] at hpf
      have HM := Lib.hid hm
      have HFTq := Lib.hid (fun q : Later wo => hft q.w')
      have l1 : ∀ q : Later wo, (loadCellsFrom ⟨w0.heap.size, 0, none⟩ 0 n32 #[]).run Tryz.prog q.w' = .ok ca q.w' := fun q => LX.out _ (HFr.out.trans q.fr (fun _ _ e => e))
      have l2 : ∀ q : Later wo, (loadCellsFrom ⟨b2, o2 + k * 34, none⟩ 0 n32 #[]).run Tryz.prog q.w' = .ok cx q.w' := fun q => HLP.out _ (HFr.out.trans q.fr (fun _ _ e => e))
      have cy : ∀ q : Later wo, q.w'.cell? ⟨w.heap.size, 0, none⟩ = some (.slice (some ⟨b2, o2, none⟩) L c) := fun q => CY.out _ (HFr.out.trans q.fr (fun _ _ e => e))
      clear hg hpo hft hpi hx hfb hcx hF hm
      go_upto_region 5 with fail
      refine wp_region_later (w0 := wo) (Fr.refl _ _) (by kernel_rfl) (by kernel_rfl) ?_
      repeat (quiet_step ((go_at_call 39; refine Calls.later_of (HFTq.out _))))
      refine wpQuiet_nil ?_
      intro _ hw'
      obtain ⟨q, hw''⟩ := hw'
      subst hw''
      have HOq := Lib.hid (HO.out.fr q.fr)
      have hcq := cy q
      have lq := l2 q
      obtain ⟨wq, hwq⟩ : ∃ wq, q.w' = wq := ⟨_, rfl⟩
      rw [hwq] at HOq hcq lq ⊢
      clear l1 l2 cy hcy hwq q
      cases fb
      · go_wp2_with fail
        go_roundg (L - (k + 1))
        case measure => omega
        case rel => exact ⟨k + 1, _, rfl, by go_num, by omega, Nat.le_refl _, Lib.hid (by rw [HPI2.out]; exact HOq.out)⟩
      · go_wp2_with (first
          | (refine wpList_buildSlice_toQ rfl 51 1 _ rfl #[(0, .agg cx)] (by simp [Act.eval, Act.put]) _ _ (HBO.out _) ?_)
          | (at_builtin; refine wpList_append_row _ rfl (.tmp 25) (.tmp 32) 51 51 rfl w1.heap.size 24 i0 (.agg zero32) 32 32 Tryz.underlying51 hi hz0 hz1 hz2 rfl v m (flatI F) rfl (by have := (HOq.out.fr ((Fr.refl (fun _ => False) wq).alloc (.cells cx 24))).1; rw [HM.out] at this; exact this) (.slice (some ⟨wq.heap.size, 0, none⟩) 1 1) 1 (flatI [x]) rfl (src_cxZ wq x cx HCX.out) (by unfold maxLen; omega) (by omega) (by have := HOq.out.2.size; simp; omega) ?_
             intro v5 w5 o5 g5 a5
             have HO5 := Lib.hid ((HOq.out.fr ((Fr.refl (fun _ => False) wq).alloc (.cells cx 24))).growZ HM.out.symm o5 g5)
             clear o5 g5 a5))
        go_roundg (L - (k + 1))
        case measure => omega
        case rel => exact ⟨k + 1, _, rfl, by go_num, by omega, Nat.le_refl _, Lib.hid (by rw [HPI2.out]; exact HO5.out)⟩
    · have hltz : ¬ ((k : Int) < L) := by omega
      obtain rfl : L = k := by omega
      have hall : ps.take L = ps := List.take_of_length_le (by rw [HLn.out]; exact Nat.le_refl _)
      have ho := HO.out
      rw [hall] at ho
      have HO2 := Lib.hid ho
      clear ho hall
      go_wp2_with fail
      go_ret
      exact ⟨_, rfl, own_weaken HO2.out.1 HF.out.size, HF.out.trans HO2.out.2 (fun _ _ e => e)⟩
end Go.Proofs.YtgbhdjncccmabaaGreatDoor
/- What is proved: the law's one: a place held against itself field by field. Conditions: its id is an id. -/
namespace Go.Proofs.YtgbhdjncccmabaaGreatDoor
open Go.RowKit
set_option linter.unusedVariables false

set_option maxHeartbeats 3200000 in
set_option maxRecDepth 100000 in
theorem Ione_any (p : Pl) (hp : p.id < big) (w : World) : Calls Tryz.prog 11 #[.agg p.cells, .agg p.cells] w fun e w' => e = .returned (.bool true) ∧ Fr (fun _ => False) w w' := by
  obtain ⟨w0, hw0⟩ : ∃ w0, w.alloc (.cells p.cells 43) = w0 := ⟨_, rfl⟩
  obtain ⟨w1, hw1⟩ : ∃ w1, w0.alloc (.cells p.cells 46) = w1 := ⟨_, rfl⟩
  have hF0 : Fr (fun _ => False) w w0 := by subst hw0; exact (Fr.refl _ w).alloc _
  have hF1 : Fr (fun _ => False) w0 w1 := by subst hw1; exact (Fr.refl _ w0).alloc _
  have hA : Whole w1 w.heap.size 43 p.cells := by subst hw0; exact (Whole.new w 43 _).fr hF1 (fun e => e)
  have hB : Whole w1 w0.heap.size 46 p.cells := by subst hw1; exact Whole.new w0 46 _
  have HF := Lib.hid (hF0.trans hF1 (fun _ _ e => e))
  obtain ⟨T32, hT32⟩ : ∃ T : TypeId, T = 24 := ⟨_, rfl⟩
  obtain ⟨n32, hn32⟩ : ∃ n : Nat, n = 32 := ⟨_, rfl⟩
  have ag32 : ∀ w, (isAgg T32).run Tryz.prog w = .ok true w := by rw [hT32]; exact fun _ => by kernel_rfl
  have sz32 : ∀ w, (sizeOf T32).run Tryz.prog w = .ok n32 w := by rw [hT32, hn32]; exact fun _ => by kernel_rfl
  have l1 : (loadCellsFrom ⟨w.heap.size, 0, none⟩ 0 n32 #[]).run Tryz.prog w1 = .ok (idC (dgt p.id)) w1 := load_head hA n32 hn32
  have l2 : (loadCellsFrom ⟨w0.heap.size, 0, none⟩ 0 n32 #[]).run Tryz.prog w1 = .ok (idC (dgt p.id)) w1 := load_head hB n32 hn32
  have c1 : w1.cell? ⟨w.heap.size, 32, none⟩ = some (.int .i64 p.pos) := by rw [hA.cell]; exact plC_pos p
  have c2 : w1.cell? ⟨w0.heap.size, 32, none⟩ = some (.int .i64 p.pos) := by rw [hB.cell]; exact plC_pos p
  have c3 : w1.cell? ⟨w.heap.size, 33, none⟩ = some (.int .u32 p.sm) := by rw [hA.cell]; exact plC_sm p
  have c4 : w1.cell? ⟨w0.heap.size, 33, none⟩ = some (.int .u32 p.sm) := by rw [hB.cell]; exact plC_sm p
  have heq := fun w => eq_nums p.id p.id hp hp w
  rw [show (p.id == p.id) = true from by simp] at heq
  obtain ⟨ci, hci⟩ : ∃ c, idC (dgt p.id) = c := ⟨_, rfl⟩
  obtain ⟨pc, hpc⟩ : ∃ c, p.cells = c := ⟨_, rfl⟩
  obtain ⟨P, hP⟩ : ∃ c, p.pos = c := ⟨_, rfl⟩
  obtain ⟨S, hS⟩ : ∃ c, p.sm = c := ⟨_, rfl⟩
  rw [hci] at l1 l2 heq
  rw [hpc] at hw0 hw1 ⊢
  rw [hP] at c1 c2
  rw [hS] at c3 c4
  clear hci hpc hP hS hn32 hF0 hF1 hA hB
  go_enter Tryz.func11, Tryz.ntmps11
  rw [show Op.load 24 (.tmp 5) = Op.load T32 (.tmp 5) by rw [hT32], show Op.load 24 (.tmp 7) = Op.load T32 (.tmp 7) by rw [hT32]]
  clear hT32
  go_wp2_with fail
  go_ret
  exact ⟨rfl, HF.out⟩
end Go.Proofs.YtgbhdjncccmabaaGreatDoor
/- What is proved: the document's Same tells of two lists that are one that they are. Conditions: the lists' cells are there. -/
namespace Go.Proofs.YtgbhdjncccmabaaGreatDoor
open Go.RowKit
set_option linter.unusedVariables false

set_option maxHeartbeats 3200000 in
set_option maxRecDepth 100000 in
theorem QSame_same (A B : Option Addr) (ca cb : Nat) (ns : List Nat) (hb : ∀ n ∈ ns, n < big) (hn : ns.length ≤ 1000) (w : World) (h1 : Lies w A (flatI ns)) (h2 : Lies w B (flatI ns)) :
    Calls Tryz.prog 12 #[.slice A ns.length ca, .slice B ns.length cb] w fun e w' => e = .returned (.bool true) ∧ Below w.heap.size w w' := by
  have HL1 := Lib.hid h1
  have HL2 := Lib.hid h2
  have HB := Lib.hid hb
  obtain ⟨L, hL⟩ : ∃ L, ns.length = L := ⟨_, rfl⟩
  have HLn := Lib.hid hL
  obtain ⟨T32, hT32⟩ : ∃ T : TypeId, T = 24 := ⟨_, rfl⟩
  obtain ⟨n32, hn32⟩ : ∃ n : Nat, n = 32 := ⟨_, rfl⟩
  have ag32 : ∀ w, (isAgg T32).run Tryz.prog w = .ok true w := by rw [hT32]; exact fun _ => by kernel_rfl
  have sz32 : ∀ w, (sizeOf T32).run Tryz.prog w = .ok n32 w := by rw [hT32, hn32]; exact fun _ => by kernel_rfl
  have hgi := guardI
  have HN32 := Lib.hid hn32
  rw [hL] at hn ⊢
  clear h1 h2 hb hL hn32
  go_enter Tryz.func12, Tryz.ntmps12
  rw [show Op.load 24 (.tmp 19) = Op.load T32 (.tmp 19) by rw [hT32], show Op.load 24 (.tmp 23) = Op.load T32 (.tmp 23) by rw [hT32]]
  clear hT32
  go_wp2
  go_loopw [5] (fun i wr => ∃ k : Nat, k ≤ L ∧ i = .int .i64 k ∧ Fr (fun _ => False) w wr) (fun i _ => L - (intOf i).toNat)
  case atStart => exact ⟨0, by omega, rfl, Fr.refl _ _⟩
  case round =>
    obtain ⟨k, hk, rfl, hf⟩ := hrel
    have HFr := Lib.hid hf
    by_cases hlt : k < L
    · obtain ⟨b, o, hA⟩ := HL1.out.some_of (by rw [HLn.out]; omega)
      subst hA
      obtain ⟨b2, o2, hA⟩ := HL2.out.some_of (by rw [HLn.out]; omega)
      subst hA
      have hka := gt_some ns k (by rw [HLn.out]; exact hlt)
      have hma := HB.out _ (gt_mem ns k (by rw [HLn.out]; exact hlt))
      have l1 : ∀ q : Later wr, (loadCellsFrom ⟨b, o + k * 32, none⟩ 0 n32 #[]).run Tryz.prog q.w' = .ok (idC (dgt (gt ns k))) q.w' := fun q => by rw [HN32.out]; exact load_at HL1.out hka (HFr.out.trans q.fr (fun _ _ e => e))
      have l2 : ∀ q : Later wr, (loadCellsFrom ⟨b2, o2 + k * 32, none⟩ 0 n32 #[]).run Tryz.prog q.w' = .ok (idC (dgt (gt ns k))) q.w' := fun q => by rw [HN32.out]; exact load_at HL2.out hka (HFr.out.trans q.fr (fun _ _ e => e))
      have heq := fun w => (by have h9 := eq_nums (gt ns k) (gt ns k) hma hma w; rw [show (gt ns k == gt ns k) = true from by simp] at h9; exact h9 : (Op.equalIn 10000 24 (.agg (idC (dgt (gt ns k)))) (.agg (idC (dgt (gt ns k))))).run Tryz.prog w = .ok true w)
      obtain ⟨ca1, hca⟩ : ∃ c, idC (dgt (gt ns k)) = c := ⟨_, rfl⟩
      rw [hca] at l1 l2 heq
      have hk0 : (k : Int) < L := by omega
      have wk := wrap_nat k (by omega)
      clear hka hma hca hf
      go_wp2_with fail
      refine wp_region_later (w0 := wr) (Fr.refl _ _) (by kernel_rfl) (by kernel_rfl) ?_
      repeat (quiet_step (fail))
      refine wpQuiet_nil ?_
      intro _ hw'
      obtain ⟨q, hw''⟩ := hw'
      subst hw''
      go_wp2_with fail
      go_roundw
      case rel => exact ⟨k + 1, by omega, by go_num, HFr.out.trans q.fr (fun _ _ e => e)⟩
      case measure => simp [intOf]; omega
    · obtain rfl : k = L := by omega
      clear hf
      go_wp2_with fail
      go_ret
      exact ⟨rfl, HFr.out.below (fun _ _ e => e)⟩
end Go.Proofs.YtgbhdjncccmabaaGreatDoor
/- What is proved: the walk of the law IndexFinds. Conditions: the arguments' cells are there; the table of the sums lies as its text lays it. -/
namespace Go.Proofs.YtgbhdjncccmabaaGreatDoor
open Go.RowKit
set_option linter.unusedVariables false

set_option maxHeartbeats 12800000 in
set_option maxRecDepth 100000 in
theorem finds_walk (A : Option Addr) (cap : Nat) (ps : List Pl) (a : Nat) (pf : Nat) (N : Int) (hok : ∀ p ∈ ps, p.Ok) (ha : a < big) (hpf : pf < big) (hN0 : -9223372036854775808 ≤ N) (hN1 : N ≤ 9223372036854775807) (w : World) (h : Lies w A (flatP ps)) (ht : Tab w) :
    Calls Tryz.prog 3 #[.slice A ps.length cap, .agg (idC (dgt a)), .agg (pfC (dgt pf) N)] w fun e w' => e = .returned (.bool true) ∧ Fr (fun _ => False) w w' := by
  obtain ⟨w0, hw0⟩ : ∃ w0, w.alloc (.cells (idC (dgt a)) 24) = w0 := ⟨_, rfl⟩
  obtain ⟨w1, hw1⟩ : ∃ w1, w0.alloc (.cells (pfC (dgt pf) N) 26) = w1 := ⟨_, rfl⟩
  have hF0 : Fr (fun _ => False) w w0 := by subst hw0; exact (Fr.refl _ w).alloc _
  have hF1 : Fr (fun _ => False) w0 w1 := by subst hw1; exact (Fr.refl _ w0).alloc _
  have hF := hF0.trans hF1 (fun _ _ e => e)
  have HO := Lib.hid (show Whole w1 w.heap.size 24 (idC (dgt a)) from by subst hw0; exact (Whole.new w 24 _).fr hF1 (fun e => e))
  have HP := Lib.hid (show Whole w1 w0.heap.size 26 (pfC (dgt pf) N) from by subst hw1; exact Whole.new w0 26 _)
  have HF := Lib.hid hF
  have HWK := Lib.hid (fun w' (f : Fr (fun _ => False) w w') => Iworks_any w' (ht.fr f (fun e => e)))
  have HIS := Lib.hid (idC_size (dgt a))
  have HPS0 := Lib.hid (pfC_size (dgt pf) N)
  by_cases hbig : 100 < ps.length
  · obtain ⟨L, hL⟩ : ∃ L, ps.length = L := ⟨_, rfl⟩
    obtain ⟨co, hco⟩ : ∃ c, idC (dgt a) = c := ⟨_, rfl⟩
    obtain ⟨cp, hcp⟩ : ∃ c, pfC (dgt pf) N = c := ⟨_, rfl⟩
    rw [hL] at hbig ⊢
    rw [hco] at hw0 ⊢
    rw [hcp] at hw1 ⊢
    clear hF0 hF1 hF hL hco hcp hok ha hpf h ht
    have h1z : (100 : Int) < (L : Int) := by omega
    clear hbig
    go_enter Tryz.func3, Tryz.ntmps3
    go_wp2_with (go_at_call 4; refine (HWK.out _ HF.out).mono ?_; rintro e w9 ⟨rfl, f9⟩; have HF9 := Lib.hid (HF.out.trans f9 (fun _ _ e => e)); clear f9)
    go_ret
    exact ⟨rfl, HF9.out⟩
  · have HLI := Lib.hid (fun w' (f : Fr (fun _ => False) w1 w') => (h.fr hF (fun _ _ e => e)).fr f (fun _ _ e => e))
    have HPL := Lib.hid (fun w' (f : Fr (fun _ => False) w1 w') => Iplain_any A cap ps (by omega) w' ((h.fr hF (fun _ _ e => e)).fr f (fun _ _ e => e)))
    have HQM := Lib.hid (fun w' A' c' (hl : Lies w' A' (flatP ps)) => QIMake_any A' c' ps a (by omega) hok w' hl)
    have HMO := Lib.hid (fun hz => make_open (l := ps) (of := a) (by omega) hok ha hz)
    have HLB : Hid (mkE ps = 0 → (mkB ps a).length ≤ 100000) := Lib.hid (fun hz => by rw [mkB, if_pos hz, fileI_len, srtP_len]; omega)
    have HOM := Lib.hid (fun (w' : World) (f : Fr (fun _ => False) w1 w') A' c' (hc : (mkB ps a).length ≤ c') (hl : Lies w' A' (bytesV (mkB ps a))) (hs : (mkB ps a).length ≤ 100000) => IOpen_any A' c' (mkB ps a) hc hs w' hl (ht.fr (hF.trans f (fun _ _ e => e)) (fun e => e)))
    have HQP := Lib.hid (fun (w' : World) A' c' (hc : (mkB ps a).length ≤ c') (hl : Lies w' A' (bytesV (mkB ps a))) (hs : (mkB ps a).length ≤ 100000) => QIOpen_any A' c' (mkB ps a) hc hs w' hl)
    have HOK := Lib.hid hok
    have HA := Lib.hid ha
    unfold MkPost at HQM
    unfold OpPost at HOM
    unfold QOpPost at HQP
    have hL1 : ps.length ≤ 100 := by omega
    obtain ⟨L, hL⟩ : ∃ L, ps.length = L := ⟨_, rfl⟩
    obtain ⟨E, hE⟩ : ∃ E, mkE ps = E := ⟨_, rfl⟩
    obtain ⟨F, hFd⟩ : ∃ F, mkB ps a = F := ⟨_, rfl⟩
    obtain ⟨M, hM⟩ : ∃ M, F.length = M := ⟨_, rfl⟩
    have HLn := Lib.hid hL
    rw [hE, hFd] at HQM HMO HLB
    rw [hFd] at HOM HQP
    rw [hM] at HQM HOM HQP HLB
    rw [hL] at HPL HQM HMO hL1 ⊢
    obtain ⟨T32, hT32⟩ : ∃ T : TypeId, T = 24 := ⟨_, rfl⟩
    obtain ⟨n32, hn32⟩ : ∃ n : Nat, n = 32 := ⟨_, rfl⟩
    have ag32 : ∀ w, (isAgg T32).run Tryz.prog w = .ok true w := by rw [hT32]; exact fun _ => by kernel_rfl
    have sz32 : ∀ w, (sizeOf T32).run Tryz.prog w = .ok n32 w := by rw [hT32, hn32]; exact fun _ => by kernel_rfl
    have HN32 := Lib.hid hn32
    obtain ⟨T33, hT33⟩ : ∃ T : TypeId, T = 38 := ⟨_, rfl⟩
    obtain ⟨n33, hn33⟩ : ∃ n : Nat, n = 33 := ⟨_, rfl⟩
    have ag33 : ∀ w, (isAgg T33).run Tryz.prog w = .ok true w := by rw [hT33]; exact fun _ => by kernel_rfl
    have sz33 : ∀ w, (sizeOf T33).run Tryz.prog w = .ok n33 w := by rw [hT33, hn33]; exact fun _ => by kernel_rfl
    have HN33 := Lib.hid hn33
    obtain ⟨TX, hTX⟩ : ∃ T : TypeId, T = 26 := ⟨_, rfl⟩
    have agX : ∀ w, (isAgg TX).run Tryz.prog w = .ok true w := by rw [hTX]; exact fun _ => by kernel_rfl
    have szX : ∀ w, (sizeOf TX).run Tryz.prog w = .ok n33 w := by rw [hTX, hn33]; exact fun _ => by kernel_rfl
    obtain ⟨TP, hTP⟩ : ∃ T : TypeId, T = 43 := ⟨_, rfl⟩
    obtain ⟨n34, hn34⟩ : ∃ n : Nat, n = 34 := ⟨_, rfl⟩
    have agP : ∀ w, (isAgg TP).run Tryz.prog w = .ok true w := by rw [hTP]; exact fun _ => by kernel_rfl
    have szP : ∀ w, (sizeOf TP).run Tryz.prog w = .ok n34 w := by rw [hTP, hn34]; exact fun _ => by kernel_rfl
    obtain ⟨TQ, hTQ⟩ : ∃ T : TypeId, T = 46 := ⟨_, rfl⟩
    have agQ : ∀ w, (isAgg TQ).run Tryz.prog w = .ok true w := by rw [hTQ]; exact fun _ => by kernel_rfl
    have szQ : ∀ w, (sizeOf TQ).run Tryz.prog w = .ok n34 w := by rw [hTQ, hn34]; exact fun _ => by kernel_rfl
    have HN34 := Lib.hid hn34
    obtain ⟨co, hco⟩ : ∃ c, idC (dgt a) = c := ⟨_, rfl⟩
    have HCO := Lib.hid hco
    obtain ⟨cp, hcp⟩ : ∃ c, pfC (dgt pf) N = c := ⟨_, rfl⟩
    have HCP := Lib.hid hcp
    rw [hco] at hw0 HO HQM HIS ⊢
    rw [hcp] at hw1 HP HPS0 ⊢
    have LO : Hid (∀ w', Fr (fun _ => False) w1 w' → (loadCellsFrom ⟨w.heap.size, 0, none⟩ 0 n32 #[]).run Tryz.prog w' = .ok co w') := Lib.hid (fun w' f => load_wholeQ (HO.out.fr f (fun e => e)) n32 (by rw [HN32.out, HIS.out]))
    have h1z : ¬ ((100 : Int) < (L : Int)) := by omega
    clear hn32 hn33 hn34 hF0 hF1 hF hbig hL hE hFd hM hco hcp hok ha h ht
    go_enter Tryz.func3, Tryz.ntmps3
    rw [show Op.load 24 (.tmp 4) = Op.load T32 (.tmp 4) by rw [hT32], show Op.load 24 (.tmp 63) = Op.load T32 (.tmp 63) by rw [hT32], show Op.load 24 (.tmp 14) = Op.load T32 (.tmp 14) by rw [hT32], show Op.load 24 (.tmp 90) = Op.load T32 (.tmp 90) by rw [hT32], show Op.load 38 (.tmp 11) = Op.load T33 (.tmp 11) by rw [hT33], show Op.load 26 (.tmp 5) = Op.load TX (.tmp 5) by rw [hTX], show Op.load 43 (.tmp 15) = Op.load TP (.tmp 15) by rw [hTP], show Op.load 46 (.tmp 17) = Op.load TQ (.tmp 17) by rw [hTQ]]
    clear hT32 hT33 hTX hTP hTQ
    go_upto_region 3 with fail
    have l4 : ∀ q : Later w1, (loadCellsFrom ⟨w.heap.size, 0, none⟩ 0 n32 #[]).run Tryz.prog q.w' = .ok co q.w' := fun q => LO.out _ q.fr
    refine wp_region_held (S := fun w' => ∃ q : Later w1, w' = q.w') (by kernel_rfl) ?_
    change wpAnyH _ _ _ _ _ _ _ _ (World.drew w1)
    have HFd := Lib.hid (show Fr (fun _ => False) w1 (World.drew w1) from (Fr.refl _ w1).drew)
    obtain ⟨wd, hwd⟩ : ∃ wd, World.drew w1 = wd := ⟨_, rfl⟩
    rw [hwd] at HFd ⊢
    clear hwd
    have HSq := Lib.hid (show ∃ q : Later w1, wd = q.w' from ⟨⟨_, HFd.out⟩, rfl⟩)
    (
      refine wpAnyH_takeX (i := 0) (v := .slice A L cap) 24 rfl rfl (by kernel_rfl) (by kernel_rfl) (by kernel_rfl) (fun _ _ _ h => h) (.inl ⟨by rfl, ?_⟩) HSq.out ?_
      · rintro _ ⟨q, rfl⟩
        go_simp)
    (
      refine wpAnyH_takeX (i := 2) (v := .agg co) 26 rfl rfl (by kernel_rfl) (by kernel_rfl) (by kernel_rfl) (fun _ _ _ h => h) (.inl ⟨by rfl, ?_⟩) HSq.out ?_
      · rintro _ ⟨q, rfl⟩
        go_simp)
    clear l4 HSq
    (
      try simp only [List.setIfInBounds_toArray, List.set_cons_succ, List.set_cons_zero]
      refine wpAnyH_all (rs := [1]) (by kernel_rfl) (by simp) ?_
      intro i hi
      simp only [List.mem_cons, List.not_mem_nil, or_false] at hi
      subst hi)
    refine wpOp_step rfl (fun K hK => ?_)
    go_simp
    go_wp2_with (go_at_call 6; refine (HPL.out wd HFd.out).mono ?_; rintro e w3 ⟨v3, rfl, o3⟩; obtain ⟨A3, c3, hv3, -, -, -, l3⟩ := o3.shape; rw [HLn.out] at hv3; subst hv3; have HL3 := Lib.hid l3; have HF3 := Lib.hid (HFd.out.trans o3.2 (fun _ _ e => e)); clear o3 l3)
    refine ⟨⟨⟨_, HF3.out⟩, rfl⟩, ?_⟩
    (
      try simp only [List.setIfInBounds_toArray, List.set_cons_succ, List.set_cons_zero]
      refine wpAnyH_all (rs := [3]) (by kernel_rfl) (by simp) ?_
      intro i hi
      simp only [List.mem_cons, List.not_mem_nil, or_false] at hi
      subst hi)
    refine wpOp_step rfl (fun K hK => ?_)
    go_simp
    go_wp2_with (go_at_call 5; refine (HQM.out w3 A3 c3 HL3.out).mono ?_; rintro e w4 ⟨v4, rfl, o4, f4⟩; obtain ⟨A4, c4, hv4, hk4, -⟩ := own_slice o4; subst hv4; have HL4 := Lib.hid (Lies.of_own o4); have HK4 := Lib.hid hk4; have HF4 := Lib.hid (HF3.out.trans f4 (fun _ _ e => e)); clear o4 f4 hk4)
    refine ⟨⟨⟨_, HF4.out⟩, rfl⟩, ?_⟩
    have HSq := Lib.hid (show ∃ q : Later w1, w4 = q.w' from ⟨⟨_, HF4.out⟩, rfl⟩)
    (
      refine wpAnyH_takeX (i := 4) (v := .tuple #[.slice A4 M c4, .int .i64 E]) 23 rfl rfl (by kernel_rfl) (by kernel_rfl) (by kernel_rfl) (fun _ _ _ h => h) (.inl ⟨by rfl, ?_⟩) HSq.out ?_
      · rintro _ ⟨q, rfl⟩
        go_simp)
    (
      refine wpAnyH_takeX (i := 5) (v := .slice A4 M c4) 28 rfl rfl (by kernel_rfl) (by kernel_rfl) (by kernel_rfl) (fun _ _ _ h => h) (.inl ⟨by rfl, ?_⟩) HSq.out ?_
      · rintro _ ⟨q, rfl⟩
        go_simp)
    (
      refine wpAnyH_takeX (i := 6) (v := .int .i64 E) 29 rfl rfl (by kernel_rfl) (by kernel_rfl) (by kernel_rfl) (fun _ _ _ h => h) (.inl ⟨by rfl, ?_⟩) HSq.out ?_
      · rintro _ ⟨q, rfl⟩
        go_simp)
    (
      try simp only [List.setIfInBounds_toArray, List.set_cons_succ, List.set_cons_zero]
      refine wpAnyH_all (rs := [7]) (by kernel_rfl) (by simp) ?_
      intro i hi
      simp only [List.mem_cons, List.not_mem_nil, or_false] at hi
      subst hi)
    refine wpOp_step rfl (fun K hK => ?_)
    go_simp
    refine hK _ _ ⟨⟨⟨_, HF4.out⟩, rfl⟩, ?_⟩
    clear hK K
    (
      try simp only [List.setIfInBounds_toArray, List.set_cons_succ, List.set_cons_zero]
      refine wpAnyH_all (rs := [8]) (by kernel_rfl) (by simp) ?_
      intro i hi
      simp only [List.mem_cons, List.not_mem_nil, or_false] at hi
      subst hi)
    refine wpOp_step rfl (fun K hK => ?_)
    go_simp
    refine hK _ _ ⟨⟨⟨_, HF4.out⟩, rfl⟩, ?_⟩
    clear hK K HSq
    refine wpAnyH_done (by kernel_rfl) ?_ _
    by_cases hz : E = 0
    · obtain ⟨n1, n2, n3, n4⟩ := HMO.out hz
      have hmlen := HLB.out hz
      have HN2 := Lib.hid n2
      have HNB := Lib.hid n1
      obtain ⟨-, -, hrs, -, -⟩ := opE_ok n2
      have HFI := Lib.hid (fun (w' : World) X A1 c1 A2 c2 A3 c3 (h' : IX w' X (nB F) A1 c1 A2 c2 A3 c3 (fanR (midB F)) (keyR (midB F)) (smR (midB F) (nB F)) (atR (midB F) (nB F)) (ofR (midB F) (nB F))) x (hx : x < big) => IFind_b F n2 x hx X A1 A2 A3 c1 c2 c3 (ofR (midB F) (nB F)) w' h')
      have HQF := Lib.hid (fun (w' : World) A3 c3 x (hx : x < big) (hl : Lies w' A3 (flatP (plsB F))) => QIFind_b F n2 A3 c3 (ofR (midB F) (nB F)) x hx (by omega) w' hl)
      have HBG := Lib.hid (fun (w' : World) X A1 c1 A2 c2 A3 c3 (h' : IX w' X (nB F) A1 c1 A2 c2 A3 c3 (fanR (midB F)) (keyR (midB F)) (smR (midB F) (nB F)) (atR (midB F) (nB F)) (ofR (midB F) (nB F))) => IBegins_any X (nB F) A1 A2 A3 c1 c2 c3 (fanR (midB F)) (keyR (midB F)) (smR (midB F) (nB F)) (atR (midB F) (nB F)) (ofR (midB F) (nB F)) pf N hN0 hN1 hpf (by omega) (idsB_big F) hrs w' h')
      have HQB := Lib.hid (fun (w' : World) A3 c3 (hl : Lies w' A3 (flatP (plsB F))) => QIBegins_any (plsB F) (fun p hp => (plsB_ok F p hp).id) A3 c3 (ofR (midB F) (nB F)) pf N hN0 hN1 hpf (by rw [plsB_len]; omega) w' hl)
      rw [plsB_len, idsP_plsB, show idsB F = keyL (nB F) (keyR (midB F)) from rfl] at HQB
      have HQS := Lib.hid (fun A3 c3 => qixC_size (.slice A3 (nB F) c3) (ofR (midB F) (nB F)))
      have HQO := Lib.hid (fun A3 c3 => qixC_one A3 (nB F) c3 (ofR (midB F) (nB F)))
      have HFO := Lib.hid (fun x => fnd_ok F x)
      have HGB : Hid (∀ x ∈ (keyL (nB F) (keyR (midB F))).filter (fitB pf N), x < big) := Lib.hid (fun x hx => idsB_big F x (List.mem_filter.1 hx).1)
      have HGL : Hid (((keyL (nB F) (keyR (midB F))).filter (fitB pf N)).length ≤ 1000) := Lib.hid (by have := List.length_filter_le (fitB pf N) (keyL (nB F) (keyR (midB F))); rw [keyL_len] at this; omega)
      obtain ⟨G, hG⟩ : ∃ G, (keyL (nB F) (keyR (midB F))).filter (fitB pf N) = G := ⟨_, rfl⟩
      rw [hG] at HBG HQB HGB HGL
      have HSM := Lib.hid (fun (w' : World) A1 B1 c1 d1 (h1 : Lies w' A1 (flatI G)) (h2 : Lies w' B1 (flatI G)) => QSame_same A1 B1 c1 d1 G HGB.out HGL.out w' h1 h2)
      rw [n2] at HOM HQP
      obtain ⟨of, hof⟩ : ∃ f, ofR (midB F) (nB F) = f := ⟨_, rfl⟩
      obtain ⟨fF, hfF⟩ : ∃ f, fanR (midB F) = f := ⟨_, rfl⟩
      obtain ⟨kF, hkF⟩ : ∃ f, keyR (midB F) = f := ⟨_, rfl⟩
      obtain ⟨sF, hsF⟩ : ∃ f, smR (midB F) (nB F) = f := ⟨_, rfl⟩
      obtain ⟨tF, htF⟩ : ∃ f, atR (midB F) (nB F) = f := ⟨_, rfl⟩
      rw [hof, hfF, hkF, hsF, htF] at HOM HFI HBG
      rw [hof] at HQP HQF HQB HQS HQO
      rw [n1] at HOM HFI HBG HQP HQF HQB HQS HQO
      obtain ⟨m9, hm9⟩ : ∃ m, G.length = m := ⟨_, rfl⟩
      rw [hm9] at HBG HSM
      have HM9 := Lib.hid hm9
      clear n1 n2 n3 n4 hrs hG hof hfF hkF hsF htF hm9
      subst hz
      go_upto_region 7 with (go_at_call 7; refine (HOM.out w4 HF4.out A4 c4 HK4.out HL4.out hmlen).mono ?_; rintro e w5 ⟨f5, ⟨h0, -⟩ | ⟨-, X, g1, g2, g3, rfl, hx⟩⟩; exact absurd rfl h0; have HX5 := Lib.hid hx.ix; have Hf5 := Lib.hid f5; have HF5 := Lib.hid (HF4.out.trans f5 (fun _ _ e => e)); clear f5 hx)
      go_upto_region 8 with (first
        | (go_at_call 8
           refine (HQP.out w5 A4 c4 HK4.out (HL4.out.fr Hf5.out (fun _ _ e => e)) hmlen).mono ?_
           rintro e w6 ⟨f6, ⟨h0, -⟩ | ⟨-, A6, c6, rfl, -, l6, -⟩⟩
           exact absurd rfl h0
           have Hf6 := Lib.hid f6
           have HL6 := Lib.hid l6
           have hqs := HQS.out A6 c6
           have hqo := HQO.out A6 c6
           have hqf := fun w' x hx hl => HQF.out w' A6 c6 x hx hl
           have hqb := fun w' hl => HQB.out w' A6 c6 hl
           obtain ⟨QC, hQC⟩ : ∃ q, qixC (.slice A6 L c6) (idC (dgt of)) = q := ⟨_, rfl⟩
           rw [hQC] at hqs hqo hqf hqb ⊢
           have HQCs := Lib.hid hqs
           have HQCo := Lib.hid hqo
           have HQF2 := Lib.hid hqf
           have HQB2 := Lib.hid hqb
           obtain ⟨wz, hwz⟩ : ∃ wz, w6.alloc (.cells zqx 38) = wz := ⟨_, rfl⟩
           have HZ := Lib.hid (show Whole wz w6.heap.size 38 zqx from by subst hwz; exact Whole.new w6 38 _)
           have HFz := Lib.hid (show Fr (fun _ => False) w6 wz from by subst hwz; exact (Fr.refl _ w6).alloc _)
           unfold zqx at hwz
           simp [List.replicate] at hwz
           clear f6 l6 hqs hqo hqf hqb hQC)
        | (refine wpList_store_at rfl 38 _ _ rfl w6.heap.size 0 38 zqx QC rfl rfl HZ.out (by rw [HQCs.out]; decide) (by rw [HQCs.out]; exact size_qx) HQCo.out ?_
           intro w7 hw7 hf7
           rw [laidAt_all _ _ (by rw [HQCs.out]; rfl)] at hw7
           have HY7 := Lib.hid hw7
           have Hf67 := Lib.hid (HFz.out.trans hf7 (fun i hi e => by omega))
           clear hw7 hf7))
      have HF7 := Lib.hid ((HF5.out.trans Hf6.out (fun _ _ e => e)).trans Hf67.out (fun _ _ e => e))
      have HX7 := Lib.hid ((HX5.out.fr Hf6.out).fr Hf67.out)
      have HL7 := Lib.hid (HL6.out.fr Hf67.out (fun _ _ e => e))
      clear hmlen
      go_upto_region 10 with fail
      go_wp2_with fail
      go_loopg [13] (L + 1) (fun kx s13 wr => ∃ k : Nat, s13 = .int .i64 k ∧ k ≤ L + 1 ∧ L + 1 - k ≤ kx ∧ Hid (Fr (fun _ => False) w7 wr))
      case atStart => exact ⟨0, rfl, by omega, by omega, Lib.hid (Fr.refl _ _)⟩
      case round =>
        obtain ⟨k, rfl, hk, hkx, HFr⟩ := hrel
        obtain ⟨wo, rfl⟩ : ∃ wo, wo = wr := ⟨wr, rfl⟩
        have wk' := wrap_nat k (by omega)
        by_cases hle : k ≤ L
        · have hlez : (k : Int) ≤ L := by omega
          have lo := LO.out wo (HF7.out.trans HFr.out (fun _ _ e => e))
          have HISc := HIS
          have HOC := Lib.hid (idC_one (dgt a))
          rw [HCO.out] at HOC
          (
            obtain ⟨woZ, hwz⟩ : ∃ wz, wo.alloc (.cells zero32 24) = wz := ⟨_, rfl⟩
            have HZ3 := Lib.hid (show Whole woZ wo.heap.size 24 zero32 from by subst hwz; exact Whole.new wo 24 zero32)
            have HFz3 := Lib.hid (show Fr (fun _ => False) wo woZ from by subst hwz; exact (Fr.refl _ wo).alloc _)
            unfold zero32 at hwz
            simp [List.replicate] at hwz)
          go_upto_region 14 with (refine wpList_store_at rfl 24 _ _ rfl wo.heap.size 0 24 zero32 co rfl rfl HZ3.out (by rw [HIS.out]; decide) (by rw [HIS.out]; exact size_IDs) HOC.out ?_; intro wu hwu hfu; rw [laidAt_all _ _ (by rw [HIS.out]; rfl)] at hwu; have HWu := Lib.hid hwu; have HFou := Lib.hid (HFz3.out.trans hfu (fun i hi e => by omega)); clear hwu hfu)
          clear lo
          by_cases hlt : k < L
          · have hltz : (k : Int) < L := by omega
            have hk0 : (0 : Int) ≤ k := by omega
            have HF1u := Lib.hid ((HF7.out.trans HFr.out (fun _ _ e => e)).trans HFou.out (fun _ _ e => e))
            have hla := HLI.out wu HF1u.out
            obtain ⟨b2, o2, hA⟩ := hla.someP (by rw [HLn.out]; omega)
            subst hA
            have hg := some_pl (ps := ps) (i := k) (by rw [HLn.out]; exact hlt)
            have HXB := Lib.hid (HOK.out _ (List.mem_of_getElem? hg)).id
            have l1 : (loadCellsFrom ⟨b2, o2 + k * 34, none⟩ 0 n32 #[]).run Tryz.prog wu = .ok (idC (dgt (ps[k]!).id)) wu := load_plid hla hg (Fr.refl _ _) n32 HN32.out
            obtain ⟨xx, hxx⟩ : ∃ x, (ps[k]!).id = x := ⟨_, rfl⟩
            rw [hxx] at l1 HXB
            have hcs := idC_size (dgt xx)
            have hcw := idC_one (dgt xx)
            obtain ⟨cv, hcv⟩ : ∃ c, idC (dgt xx) = c := ⟨_, rfl⟩
            rw [hcv] at l1 hcs hcw
            have HCV := Lib.hid hcv
            have HCS := Lib.hid hcs
            have HCW := Lib.hid hcw
            clear hla hg hxx hcv hcs hcw
            go_upto_region 16 with (refine wpList_store_at rfl 24 _ _ rfl wo.heap.size 0 24 co cv rfl rfl HWu.out (by rw [HCS.out, HIS.out]; decide) (by rw [HCS.out]; exact size_IDs) HCW.out ?_; intro wv hwv hfv; rw [laidAt_all _ _ (by rw [HCS.out, HIS.out])] at hwv; have HV := Lib.hid hwv; have HFv := Lib.hid (HFr.out.trans (Fr.trans HFou.out hfv (fun i hi e => by omega)) (fun _ _ e => e)); clear hwv hfv)
            clear l1
            (
              have HVS := Lib.hid (show cv.size = 32 from by rw [← HCV.out, idC_size])
              have hpk := plC_size (fndB F xx)
              have hpw := plC_one (fndB F xx)
              have hon := fun w => Ione_any (fndB F xx) (HFO.out xx).id w
              have hfi := fun w' h' => HFI.out w' X (some ⟨g1, 0, none⟩) L (some ⟨g2, 0, none⟩) L (some ⟨g3, 0, none⟩) L h' xx HXB.out
              have hqf := fun w' hl => HQF2.out w' xx HXB.out hl
              rw [HCV.out] at hfi hqf
              obtain ⟨hb, hhb⟩ : ∃ h, hasN (idsB F) xx = h := ⟨_, rfl⟩
              obtain ⟨pc, hpc⟩ : ∃ c, (fndB F xx).cells = c := ⟨_, rfl⟩
              rw [hhb, hpc] at hfi hqf
              rw [hpc] at hpk hpw hon
              have HFI2 := Lib.hid hfi
              have HQF3 := Lib.hid hqf
              have HPK := Lib.hid hpk
              have HPW := Lib.hid hpw
              have HON := Lib.hid hon
              have lv := load_wholeQ HV.out n32 (by rw [HN32.out, HVS.out])
              clear hpk hpw hon hfi hqf hhb hpc
              go_upto_region 17 with (first
                | (go_at_call 9
                   refine (HFI2.out wv (HX7.out.fr HFv.out)).mono ?_
                   rintro e wf ⟨rfl, ff⟩
                   have Hff := Lib.hid ff
                   clear ff
                   (
                     obtain ⟨wfZ, hwz2⟩ : ∃ wz, wf.alloc (.cells zeroPl 43) = wz := ⟨_, rfl⟩
                     have HZg := Lib.hid (show Whole wfZ wf.heap.size 43 zeroPl from by subst hwz2; exact Whole.new wf 43 zeroPl)
                     have HFg := Lib.hid (show Fr (fun _ => False) wf wfZ from by subst hwz2; exact (Fr.refl _ wf).alloc _)
                     unfold zeroPl at hwz2
                     simp [List.replicate] at hwz2))
                | (refine wpList_store_at rfl 43 _ _ rfl wf.heap.size 0 43 zeroPl pc rfl rfl HZg.out (by rw [HPK.out]; decide) (by rw [HPK.out]; exact size_pl) HPW.out ?_
                   intro wh hwh hfh
                   rw [laidAt_all _ _ (by rw [HPK.out]; rfl)] at hwh
                   have HWh := Lib.hid hwh
                   have HFvh := Lib.hid (Hff.out.trans (HFg.out.trans hfh (fun i hi e => by omega)) (fun _ _ e => e))
                   clear hwh hfh))
              have HFh := Lib.hid (HFv.out.trans HFvh.out (fun _ _ e => e))
              have lv2 := load_wholeQ (HV.out.fr HFvh.out (fun e => e)) n32 (by rw [HN32.out, HVS.out])
              have ly := load_wholeQ (HY7.out.fr HFh.out (fun e => e)) n33 (by rw [HN33.out, HQCs.out])
              clear lv
              go_upto_region 18 with (first
                | (go_at_call 10
                   refine (HQF3.out wh (HL7.out.fr HFh.out (fun _ _ e => e))).mono ?_
                   rintro e wi ⟨rfl, fi⟩
                   have Hfi := Lib.hid fi
                   clear fi
                   (
                     obtain ⟨wiZ, hwz2⟩ : ∃ wz, wi.alloc (.cells zeroPl 46) = wz := ⟨_, rfl⟩
                     have HZj := Lib.hid (show Whole wiZ wi.heap.size 46 zeroPl from by subst hwz2; exact Whole.new wi 46 zeroPl)
                     have HFj := Lib.hid (show Fr (fun _ => False) wi wiZ from by subst hwz2; exact (Fr.refl _ wi).alloc _)
                     unfold zeroPl at hwz2
                     simp [List.replicate] at hwz2))
                | (refine wpList_store_at rfl 46 _ _ rfl wi.heap.size 0 46 zeroPl pc rfl rfl HZj.out (by rw [HPK.out]; decide) (by rw [HPK.out]; exact size_q) HPW.out ?_
                   intro wk hwk hfk
                   rw [laidAt_all _ _ (by rw [HPK.out]; rfl)] at hwk
                   have HWk := Lib.hid hwk
                   have HFhk := Lib.hid (Hfi.out.trans (HFj.out.trans hfk (fun i hi e => by omega)) (fun _ _ e => e))
                   clear hwk hfk))
              have lp1 := load_wholeQ (HWh.out.fr HFhk.out (fun e => e)) n34 (by rw [HN34.out, HPK.out])
              have lp2 := load_wholeQ HWk.out n34 (by rw [HN34.out, HPK.out])
              clear lv2 ly
              go_wp2_with (go_at_call 11; refine (HON.out wk).mono ?_; rintro e wl ⟨rfl, fl⟩; have HFl := Lib.hid ((HFh.out.trans HFhk.out (fun _ _ e => e)).trans fl (fun _ _ e => e)); clear fl)
              go_roundg (L + 1 - (k + 1))
              case measure => omega
              case rel => exact ⟨k + 1, by go_num, by omega, Nat.le_refl _, HFl⟩)
          · have hltz : ¬ ((k : Int) < L) := by omega
            obtain ⟨wv, rfl⟩ : ∃ wv, wv = wu := ⟨wu, rfl⟩
            have HV := HWu
            have HFv := Lib.hid (HFr.out.trans HFou.out (fun _ _ e => e))
            have HXB := HA
            obtain ⟨cv, rfl⟩ : ∃ cv, cv = co := ⟨co, rfl⟩
            have HCV := HCO
            go_upto_region 16 with fail
            (
              have HVS := Lib.hid (show cv.size = 32 from by rw [← HCV.out, idC_size])
              have hpk := plC_size (fndB F a)
              have hpw := plC_one (fndB F a)
              have hon := fun w => Ione_any (fndB F a) (HFO.out a).id w
              have hfi := fun w' h' => HFI.out w' X (some ⟨g1, 0, none⟩) L (some ⟨g2, 0, none⟩) L (some ⟨g3, 0, none⟩) L h' a HXB.out
              have hqf := fun w' hl => HQF2.out w' a HXB.out hl
              rw [HCV.out] at hfi hqf
              obtain ⟨hb, hhb⟩ : ∃ h, hasN (idsB F) a = h := ⟨_, rfl⟩
              obtain ⟨pc, hpc⟩ : ∃ c, (fndB F a).cells = c := ⟨_, rfl⟩
              rw [hhb, hpc] at hfi hqf
              rw [hpc] at hpk hpw hon
              have HFI2 := Lib.hid hfi
              have HQF3 := Lib.hid hqf
              have HPK := Lib.hid hpk
              have HPW := Lib.hid hpw
              have HON := Lib.hid hon
              have lv := load_wholeQ HV.out n32 (by rw [HN32.out, HVS.out])
              clear hpk hpw hon hfi hqf hhb hpc
              go_upto_region 17 with (first
                | (go_at_call 9
                   refine (HFI2.out wv (HX7.out.fr HFv.out)).mono ?_
                   rintro e wf ⟨rfl, ff⟩
                   have Hff := Lib.hid ff
                   clear ff
                   (
                     obtain ⟨wfZ, hwz2⟩ : ∃ wz, wf.alloc (.cells zeroPl 43) = wz := ⟨_, rfl⟩
                     have HZg := Lib.hid (show Whole wfZ wf.heap.size 43 zeroPl from by subst hwz2; exact Whole.new wf 43 zeroPl)
                     have HFg := Lib.hid (show Fr (fun _ => False) wf wfZ from by subst hwz2; exact (Fr.refl _ wf).alloc _)
                     unfold zeroPl at hwz2
                     simp [List.replicate] at hwz2))
                | (refine wpList_store_at rfl 43 _ _ rfl wf.heap.size 0 43 zeroPl pc rfl rfl HZg.out (by rw [HPK.out]; decide) (by rw [HPK.out]; exact size_pl) HPW.out ?_
                   intro wh hwh hfh
                   rw [laidAt_all _ _ (by rw [HPK.out]; rfl)] at hwh
                   have HWh := Lib.hid hwh
                   have HFvh := Lib.hid (Hff.out.trans (HFg.out.trans hfh (fun i hi e => by omega)) (fun _ _ e => e))
                   clear hwh hfh))
              have HFh := Lib.hid (HFv.out.trans HFvh.out (fun _ _ e => e))
              have lv2 := load_wholeQ (HV.out.fr HFvh.out (fun e => e)) n32 (by rw [HN32.out, HVS.out])
              have ly := load_wholeQ (HY7.out.fr HFh.out (fun e => e)) n33 (by rw [HN33.out, HQCs.out])
              clear lv
              go_upto_region 18 with (first
                | (go_at_call 10
                   refine (HQF3.out wh (HL7.out.fr HFh.out (fun _ _ e => e))).mono ?_
                   rintro e wi ⟨rfl, fi⟩
                   have Hfi := Lib.hid fi
                   clear fi
                   (
                     obtain ⟨wiZ, hwz2⟩ : ∃ wz, wi.alloc (.cells zeroPl 46) = wz := ⟨_, rfl⟩
                     have HZj := Lib.hid (show Whole wiZ wi.heap.size 46 zeroPl from by subst hwz2; exact Whole.new wi 46 zeroPl)
                     have HFj := Lib.hid (show Fr (fun _ => False) wi wiZ from by subst hwz2; exact (Fr.refl _ wi).alloc _)
                     unfold zeroPl at hwz2
                     simp [List.replicate] at hwz2))
                | (refine wpList_store_at rfl 46 _ _ rfl wi.heap.size 0 46 zeroPl pc rfl rfl HZj.out (by rw [HPK.out]; decide) (by rw [HPK.out]; exact size_q) HPW.out ?_
                   intro wk hwk hfk
                   rw [laidAt_all _ _ (by rw [HPK.out]; rfl)] at hwk
                   have HWk := Lib.hid hwk
                   have HFhk := Lib.hid (Hfi.out.trans (HFj.out.trans hfk (fun i hi e => by omega)) (fun _ _ e => e))
                   clear hwk hfk))
              have lp1 := load_wholeQ (HWh.out.fr HFhk.out (fun e => e)) n34 (by rw [HN34.out, HPK.out])
              have lp2 := load_wholeQ HWk.out n34 (by rw [HN34.out, HPK.out])
              clear lv2 ly
              go_wp2_with (go_at_call 11; refine (HON.out wk).mono ?_; rintro e wl ⟨rfl, fl⟩; have HFl := Lib.hid ((HFh.out.trans HFhk.out (fun _ _ e => e)).trans fl (fun _ _ e => e)); clear fl)
              go_roundg (L + 1 - (k + 1))
              case measure => omega
              case rel => exact ⟨k + 1, by go_num, by omega, Nat.le_refl _, HFl⟩)
        · have hlez : ¬ ((k : Int) ≤ L) := by omega
          have HFo := Lib.hid (HF7.out.trans HFr.out (fun _ _ e => e))
          have hpp := HP.out.fr HFo.out (fun e => e)
          have hbg := HBG.out
          have hqb := HQB2.out
          obtain ⟨ci, hci⟩ : ∃ c, idC (dgt pf) = c := ⟨_, rfl⟩
          rw [hci] at hqb
          have HBG2 := Lib.hid (fun w' h' => HBG.out w' X (some ⟨g1, 0, none⟩) L (some ⟨g2, 0, none⟩) L (some ⟨g3, 0, none⟩) L h')
          rw [HCP.out] at HBG2
          have HQB3 := Lib.hid hqb
          have lp : ∀ q : Later wo, (loadCellsFrom ⟨w0.heap.size, 0, none⟩ 0 n33 #[]).run Tryz.prog q.w' = .ok cp q.w' := fun q => load_wholeQ (hpp.fr q.fr (fun e => e)) n33 (by rw [HN33.out, HPS0.out])
          have li : ∀ q : Later wo, (loadCellsFrom ⟨w0.heap.size, 0, none⟩ 0 n32 #[]).run Tryz.prog q.w' = .ok ci q.w' := fun q => by
            have := load_first (hpp.fr q.fr (fun e => e)) (Fr.refl _ q.w') (n := n32) (by rw [HPS0.out, HN32.out]; decide)
            rw [HN32.out, ← HCP.out, pfC_ids, Array.toArray_toList, hci, ← HN32.out] at this
            exact this
          have cn : ∀ q : Later wo, q.w'.cell? ⟨w0.heap.size, 32, none⟩ = some (.int .i64 N) := fun q => by rw [(hpp.fr q.fr (fun e => e)).cell, ← HCP.out]; exact pfC_N _ _
          have ly : ∀ q : Later wo, (loadCellsFrom ⟨w6.heap.size, 0, none⟩ 0 n33 #[]).run Tryz.prog q.w' = .ok QC q.w' := fun q => load_wholeQ ((HY7.out.fr HFr.out (fun e => e)).fr q.fr (fun e => e)) n33 (by rw [HN33.out, HQCs.out])
          clear hpp hbg hqb hci
          go_upto_region 20 with fail
          refine wp_region_held (S := fun w' => ∃ q : Later wo, w' = q.w') (by kernel_rfl) ?_
          change wpAnyH _ _ _ _ _ _ _ _ (World.drew wo)
          have HFd2 := Lib.hid (show Fr (fun _ => False) wo (World.drew wo) from (Fr.refl _ wo).drew)
          obtain ⟨wa, hwa⟩ : ∃ wd, World.drew wo = wd := ⟨_, rfl⟩
          rw [hwa] at HFd2 ⊢
          clear hwa
          have HSq := Lib.hid (show ∃ q : Later wo, wa = q.w' from ⟨⟨_, HFd2.out⟩, rfl⟩)
          (
            refine wpAnyH_takeX (i := 0) (v := .pointer (some ⟨X, 0, none⟩)) 86 rfl rfl (by kernel_rfl) (by kernel_rfl) (by kernel_rfl) (fun _ _ _ h => h) (.inl ⟨by rfl, ?_⟩) HSq.out ?_
            · rintro _ ⟨q, rfl⟩
              go_simp)
          (
            refine wpAnyH_takeX (i := 1) (v := .agg cp) 87 rfl rfl (by kernel_rfl) (by kernel_rfl) (by kernel_rfl) (fun _ _ _ h => h) (.inl ⟨by rfl, ?_⟩) HSq.out ?_
            · rintro _ ⟨q, rfl⟩
              go_simp)
          (
            refine wpAnyH_takeX (i := 3) (v := .agg QC) 89 rfl rfl (by kernel_rfl) (by kernel_rfl) (by kernel_rfl) (fun _ _ _ h => h) (.inl ⟨by rfl, ?_⟩) HSq.out ?_
            · rintro _ ⟨q, rfl⟩
              go_simp)
          (
            refine wpAnyH_takeX (i := 4) (v := .pointer (some ⟨w0.heap.size, 0, none⟩)) 90 rfl rfl (by kernel_rfl) (by kernel_rfl) (by kernel_rfl) (fun _ _ _ h => h) (.inl ⟨by rfl, ?_⟩) HSq.out ?_
            · rintro _ ⟨q, rfl⟩
              go_simp)
          (
            refine wpAnyH_takeX (i := 5) (v := .agg ci) 91 rfl rfl (by kernel_rfl) (by kernel_rfl) (by kernel_rfl) (fun _ _ _ h => h) (.inl ⟨by rfl, ?_⟩) HSq.out ?_
            · rintro _ ⟨q, rfl⟩
              go_simp)
          (
            refine wpAnyH_takeX (i := 6) (v := .pointer (some ⟨w0.heap.size, 32, none⟩)) 92 rfl rfl (by kernel_rfl) (by kernel_rfl) (by kernel_rfl) (fun _ _ _ h => h) (.inl ⟨by rfl, ?_⟩) HSq.out ?_
            · rintro _ ⟨q, rfl⟩
              go_simp)
          (
            refine wpAnyH_takeX (i := 7) (v := .int .i64 N) 93 rfl rfl (by kernel_rfl) (by kernel_rfl) (by kernel_rfl) (fun _ _ _ h => h) (.inl ⟨by rfl, ?_⟩) HSq.out ?_
            · rintro _ ⟨q, rfl⟩
              go_simp)
          clear lp li cn ly HSq
          (
            try simp only [List.setIfInBounds_toArray, List.set_cons_succ, List.set_cons_zero]
            refine wpAnyH_all (rs := [2]) (by kernel_rfl) (by simp) ?_
            intro i hi
            simp only [List.mem_cons, List.not_mem_nil, or_false] at hi
            subst hi)
          refine wpOp_step rfl (fun K hK => ?_)
          go_simp
          go_wp2_with (go_at_call 13; refine (HBG2.out wa ((HX7.out.fr HFr.out).fr HFd2.out)).mono ?_; rintro e wb ⟨Ab, cb, rfl, lb, fb⟩; have HLb := Lib.hid lb; have HFb := Lib.hid (HFd2.out.trans fb (fun _ _ e => e)); clear lb fb)
          refine ⟨⟨⟨_, HFb.out⟩, rfl⟩, ?_⟩
          (
            try simp only [List.setIfInBounds_toArray, List.set_cons_succ, List.set_cons_zero]
            refine wpAnyH_all (rs := [8]) (by kernel_rfl) (by simp) ?_
            intro i hi
            simp only [List.mem_cons, List.not_mem_nil, or_false] at hi
            subst hi)
          refine wpOp_step rfl (fun K hK => ?_)
          go_simp
          go_wp2_with (go_at_call 14; refine (HQB3.out wb ((HL7.out.fr HFr.out (fun _ _ e => e)).fr HFb.out (fun _ _ e => e))).mono ?_; rintro e we ⟨ve, rfl, oe⟩; obtain ⟨Ae, ce, hve, -, -, -, le⟩ := oe.slice; rw [HM9.out] at hve; subst hve; have HLe := Lib.hid le; have Hfe := Lib.hid oe.2; have HFe := Lib.hid (HFb.out.trans oe.2 (fun _ _ e => e)); clear oe le)
          refine ⟨⟨⟨_, HFe.out⟩, rfl⟩, ?_⟩
          (
            try simp only [List.setIfInBounds_toArray, List.set_cons_succ, List.set_cons_zero]
            refine wpAnyH_all (rs := [9]) (by kernel_rfl) (by simp) ?_
            intro i hi
            simp only [List.mem_cons, List.not_mem_nil, or_false] at hi
            subst hi)
          refine wpOp_step rfl (fun K hK => ?_)
          go_simp
          go_wp2_with (go_at_call 12; refine (HSM.out we Ab Ae cb ce (HLb.out.fr Hfe.out (fun _ _ e => e)) HLe.out).mono ?_; rintro e wg ⟨rfl, bg⟩; have HFg := Lib.hid (HFe.out.then_below bg); clear bg)
          refine ⟨⟨⟨_, HFg.out⟩, rfl⟩, ?_⟩
          have HSq := Lib.hid (show ∃ q : Later wo, wg = q.w' from ⟨⟨_, HFg.out⟩, rfl⟩)
          (
            refine wpAnyH_takeX (i := 10) (v := .bool true) 96 rfl rfl (by kernel_rfl) (by kernel_rfl) (by kernel_rfl) (fun _ _ _ h => h) (.inl ⟨by rfl, ?_⟩) HSq.out ?_
            · rintro _ ⟨q, rfl⟩
              go_simp)
          clear HSq
          have HFw := Lib.hid ((HF.out.trans HFo.out (fun _ _ e => e)).trans HFg.out (fun _ _ e => e))
          (
            try simp only [List.setIfInBounds_toArray, List.set_cons_succ, List.set_cons_zero]
            refine wpAnyH_all (rs := [11]) (by kernel_rfl) (by simp) ?_
            intro i hi
            simp only [List.mem_cons, List.not_mem_nil, or_false] at hi
            subst hi)
          refine wpOp_step rfl (fun K hK => ?_)
          go_simp
          go_wp2_with (go_at_call 4; refine (HWK.out wg HFw.out).mono ?_; rintro e wh ⟨rfl, fh⟩; have HFh := Lib.hid (HFg.out.trans fh (fun _ _ e => e)); have HFz9 := Lib.hid (HFw.out.trans fh (fun _ _ e => e)); clear fh)
          refine ⟨⟨⟨_, HFh.out⟩, rfl⟩, ?_⟩
          have HSq := Lib.hid (show ∃ q : Later wo, wh = q.w' from ⟨⟨_, HFh.out⟩, rfl⟩)
          (
            refine wpAnyH_takeX (i := 12) (v := .bool true) 98 rfl rfl (by kernel_rfl) (by kernel_rfl) (by kernel_rfl) (fun _ _ _ h => h) (.inl ⟨by rfl, ?_⟩) HSq.out ?_
            · rintro _ ⟨q, rfl⟩
              go_simp)
          (
            try simp only [List.setIfInBounds_toArray, List.set_cons_succ, List.set_cons_zero]
            refine wpAnyH_all (rs := [13]) (by kernel_rfl) (by simp) ?_
            intro i hi
            simp only [List.mem_cons, List.not_mem_nil, or_false] at hi
            subst hi)
          refine wpOp_step rfl (fun K hK => ?_)
          go_simp
          refine hK _ _ ⟨⟨⟨_, HFh.out⟩, rfl⟩, ?_⟩
          clear hK K HSq
          refine wpAnyH_done (by kernel_rfl) ?_ _
          go_wp2_with fail
          go_ret
          exact ⟨rfl, HFz9.out⟩
    · have hz2 : (E == 0) = false := by simpa using hz
      go_wp2_with (go_at_call 4; refine (HWK.out _ (HF.out.trans HF4.out (fun _ _ e => e))).mono ?_; rintro e w9 ⟨rfl, f9⟩; have HF9 := Lib.hid ((HF.out.trans HF4.out (fun _ _ e => e)).trans f9 (fun _ _ e => e)); clear f9)
      go_ret
      exact ⟨rfl, HF9.out⟩
end Go.Proofs.YtgbhdjncccmabaaGreatDoor

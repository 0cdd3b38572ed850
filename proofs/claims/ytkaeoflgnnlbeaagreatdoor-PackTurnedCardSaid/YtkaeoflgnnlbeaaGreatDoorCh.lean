/- What is proved: what the walks of this seat need of layers below, merged out of the texts Tre (of each just what is needed). Conditions: each theorem names its own. -/
import Derived.Test.YtkaeoflgnnlbeaaGreatDoorCg
/- What is proved: the library's merge of two parts of a list of entries in place, by halves, at whatever length: all are in order behind it. Conditions: the list lies in a block; the comparison's contract. -/
namespace Go.Proofs.YtkaeoflgnnlbeaaGreatDoor
open Go.Shelf Go.RowKit Go.Lib Go.Sort
set_option linter.unusedVariables false
section
variable {α : Type} [Inhabited α]
set_option maxHeartbeats 16000000 in
set_option maxRecDepth 1000000 in
/-- By halves. -/
theorem GsymMerge_halves (enc : α → List Value) (cf : α → α → Int) (ixf : α → Nat) (g : Nat) (cb : Array Value) (blk off cap a m b : Nat) (d0 d : Array α) (w0 w : World)
    (eg : ∀ args w, (callFunc g args).run Tryz.prog w = .ok (.enter g args) w) (hO : SWO (ltOf cf)) (hcmp : CmpLays Tryz.prog g cb enc 34 cf blk off d0.size w0) (R : RowK enc 34 w0 blk off d0) (hs : d0.size = d.size) (S : SWK enc 34 w0 blk off d w)
    (ht : Two (ltOf cf) ixf a m b d) (ham : a + 2 ≤ m) (hmb : m + 2 ≤ b) (hb : b ≤ d.size) (hsz : d.size < 1000000)
    (ih : ∀ (a' m' b' : Nat) (d' : Array α) (w' : World), b' - a' < b - a → d'.size = d.size → SWK enc 34 w0 blk off d' w' → Two (ltOf cf) ixf a' m' b' d' → a' < m' → m' < b' → b' ≤ d.size → MergeSays enc cf ixf g cb blk off cap d0 w0 a' m' b' d' w') :
    MergeSays enc cf ixf g cb blk off cap d0 w0 a m b d w := by
  unfold MergeSays at ih ⊢
  obtain ⟨T, hT⟩ : ∃ T : TypeId, T = 212 := ⟨_, rfl⟩
  obtain ⟨kn, hk⟩ : ∃ n : Nat, n = 34 := ⟨_, rfl⟩
  have aE : ∀ w, (isAgg T).run Tryz.prog w = .ok true w := by rw [hT]; exact fun _ => by kernel_rfl
  have zE : ∀ w, (sizeOf T).run Tryz.prog w = .ok kn w := by rw [hT, hk]; exact fun _ => by kernel_rfl
  have HK := Lib.hid hk
  have mixed : Tryz.prog.follows .mixedOrders = true := by kernel_rfl
  have S0 : Aside (SWK enc 34 w0 blk off d w) := S
  have HC : Aside _ := hcmp
  have HT := Lib.hid ht
  clear S hk hcmp ht
  have HIH := Lib.hid ih
  clear ih
  obtain ⟨mid, hmid⟩ : ∃ x, x = (a + b) / 2 := ⟨_, rfl⟩
  have hmz : ((a : Int) + (b : Int)) / 2 = (mid : Int) := by omega
  have hm1 : a + 2 ≤ mid := by omega
  have hm2 : mid + 2 ≤ b := by omega
  have HM := Lib.hid hmid
  clear hmid
  have h1 : ¬ ((m : Int) - a = 1) := by omega
  have h1b : ((m : Int) - a == 1) = false := by simp [h1]
  have h2 : ¬ ((b : Int) - m = 1) := by omega
  have h2b : ((b : Int) - m == 1) = false := by simp [h2]
  go_enter Tryz.func228, Tryz.ntmps228
  rw [show Op.load 212 (.tmp 163) = Op.load T (.tmp 163) by rw [hT], show Op.load 212 (.tmp 167) = Op.load T (.tmp 167) by rw [hT]]
  clear hT
  go_upto_if 140 with fail
  go_cut [20, 21] (fun s20 s21 wc => ∃ lo hi : Nat, s20 = .int .i64 lo ∧ s21 = .int .i64 hi ∧ Hid (lo = if mid < m then mid + m - b else a) ∧ Hid (hi = if mid < m then mid else m) ∧ Aside (SWK enc 34 w0 blk off d wc))
  case first =>
    by_cases hmm : mid < m
    · have hmmz : (mid : Int) < (m : Int) := by omega
      go_wp2
      go_meet
      case rel => exact ⟨mid + m - b, mid, by go_num, rfl, Lib.hid (by rw [if_pos hmm]), Lib.hid (by rw [if_pos hmm]), S0⟩
    · have hmmz : ¬ ((mid : Int) < (m : Int)) := by omega
      go_wp2
      go_meet
      case rel => exact ⟨a, m, rfl, rfl, Lib.hid (by rw [if_neg hmm]), Lib.hid (by rw [if_neg hmm]), S0⟩
  case rest =>
    clear S0
    obtain ⟨lo, hi, rfl, rfl, HL, HH, S1⟩ := hcut
    have hmm : m ≤ d.size := by omega
    have hlh : lo ≤ hi ∧ a ≤ lo ∧ hi ≤ m ∧ hi ≤ mid ∧ mid + m ≤ lo + b := by
      have h3 := HL.out
      have h4 := HH.out
      have h5 := HM.out
      by_cases hq : mid < m
      · rw [if_pos hq] at h3 h4; omega
      · rw [if_neg hq] at h3 h4; omega
    obtain ⟨hl1, hl2, hl3, hl4, hl5⟩ := hlh
    have hpz : IntKind.i64.wrap ((mid : Int) + (m : Int) - 1) = (mid : Int) + (m : Int) - 1 := by rw [IntKind.wrap_i64]; omega
    obtain ⟨p, hp⟩ : ∃ p, p = mid + m - 1 := ⟨_, rfl⟩
    have hpe : (mid : Int) + (m : Int) - 1 = (p : Int) := by omega
    have hp1 : p + 1 = mid + m := by omega
    clear hp
    go_wp2
    go_loopg [20, 21] (hi - lo) (fun kx s20 s21 wr => ∃ (s r : Nat), s20 = .int .i64 s ∧ s21 = .int .i64 r ∧ lo ≤ s ∧ s ≤ r ∧ r ≤ hi ∧ r - s ≤ kx ∧ Aside (SWK enc 34 w0 blk off d wr) ∧ Hid (Half (ltOf cf) ixf p lo hi s r d))
    case atStart => exact ⟨lo, hi, rfl, rfl, Nat.le_refl _, hl1, Nat.le_refl _, Nat.le_refl _, S1, Lib.hid (Half.start hl1)⟩
    case round =>
      clear S1
      obtain ⟨s, r, rfl, rfl, hls, hsr, hrh, hkx, S1, HI⟩ := hrel
      obtain ⟨dk, hdk⟩ : ∃ x, x = d := ⟨_, rfl⟩
      by_cases hlt : s < r
      · have hltz : (s : Int) < (r : Int) := by omega
        obtain ⟨c, hh⟩ : ∃ c, c = (s + r) / 2 := ⟨_, rfl⟩
        have hhz : ((s : Int) + (r : Int)) / 2 = (c : Int) := by omega
        have hh1 : s ≤ c := by omega
        have hh2 : c < r := by omega
        clear hh
        rw [← hdk] at S1
        have hdks : dk.size = d.size := by rw [hdk]
        obtain ⟨q, hq⟩ : ∃ q, q = p - c := ⟨_, rfl⟩
        have hqz : (p : Int) - (c : Int) = (q : Int) := by omega
        have HQ := Lib.hid hq
        clear hq
        (
        have ea1 : ((q : Int)).toNat = q := by omega
        have pa1 : (0 : Int) ≤ (q : Int) := by omega
        have ba1 : (q : Int) < (d.size : Int) := by omega
        have ra1 : IntKind.i64.wrap ((q : Int)) = (q : Int) := by rw [IntKind.wrap_i64]; omega)
        (
        have ea2 : ((c : Int)).toNat = c := by omega
        have pa2 : (0 : Int) ≤ (c : Int) := by omega
        have ba2 : (c : Int) < (d.size : Int) := by omega
        have ra2 : IntKind.i64.wrap ((c : Int)) = (c : Int) := by rw [IntKind.wrap_i64]; omega)
        cases hL : ltOf cf dk[q]! dk[c]! with
        | false =>
          (
          obtain ⟨xx, hxx⟩ : ∃ x, x = dk[q]! := ⟨_, rfl⟩
          obtain ⟨yy, hyy⟩ : ∃ x, x = dk[c]! := ⟨_, rfl⟩
          have la : ∀ n os, Sem.run Tryz.prog (loadCellsFrom ⟨blk, off + (q) * 34, none⟩ 0 kn #[]) (grow (wr.drewN n) os) = .ok (enc dk[q]!).toArray (grow (wr.drewN n) os) := fun n os => by rw [HK.out]; exact S1.out.ld R (by omega) Tryz.prog (q) (by omega) n os
          have lb : ∀ n os, Sem.run Tryz.prog (loadCellsFrom ⟨blk, off + (c) * 34, none⟩ 0 kn #[]) (grow (wr.drewN n) os) = .ok (enc dk[c]!).toArray (grow (wr.drewN n) os) := fun n os => by rw [HK.out]; exact S1.out.ld R (by omega) Tryz.prog (c) (by omega) n os
          rw [← hxx] at la
          rw [← hyy] at lb
          have hc := S1.out.cmp HC.out (by omega) xx yy
          have hd : decide (cf xx yy < 0) = false := by rw [hxx, hyy]; exact hL
          have hv := hd
          first | replace hv := of_decide_eq_true hv | replace hv := of_decide_eq_false hv
          clear hxx hyy
          go_wp2_with fail
          go_quiet_grown (first | (go_at_fn g; refine Calls.grown_of (hc _ _)))
          have S2 : Aside (SWK enc 34 w0 blk off dk (grow (wr.drewN nq) osq)) := S1.out.grown nq osq
          clear la lb hc S1
          generalize grow (wr.drewN nq) osq = w2 at S2 ⊢
          clear nq osq hd hv)
          go_wp2
          go_roundg (r - (c + 1))
          case measure => omega
          case rel =>
            rw [hdk, HQ.out] at hL
            exact ⟨c + 1, r, by go_num, rfl, by omega, by omega, hrh, Nat.le_refl _, hdk ▸ S2, Lib.hid (HI.out.more hO HT.out hl2 hl3 (by omega) (by omega) hh1 hh2 hL)⟩
        | true =>
          (
          obtain ⟨xx, hxx⟩ : ∃ x, x = dk[q]! := ⟨_, rfl⟩
          obtain ⟨yy, hyy⟩ : ∃ x, x = dk[c]! := ⟨_, rfl⟩
          have la : ∀ n os, Sem.run Tryz.prog (loadCellsFrom ⟨blk, off + (q) * 34, none⟩ 0 kn #[]) (grow (wr.drewN n) os) = .ok (enc dk[q]!).toArray (grow (wr.drewN n) os) := fun n os => by rw [HK.out]; exact S1.out.ld R (by omega) Tryz.prog (q) (by omega) n os
          have lb : ∀ n os, Sem.run Tryz.prog (loadCellsFrom ⟨blk, off + (c) * 34, none⟩ 0 kn #[]) (grow (wr.drewN n) os) = .ok (enc dk[c]!).toArray (grow (wr.drewN n) os) := fun n os => by rw [HK.out]; exact S1.out.ld R (by omega) Tryz.prog (c) (by omega) n os
          rw [← hxx] at la
          rw [← hyy] at lb
          have hc := S1.out.cmp HC.out (by omega) xx yy
          have hd : decide (cf xx yy < 0) = true := by rw [hxx, hyy]; exact hL
          have hv := hd
          first | replace hv := of_decide_eq_true hv | replace hv := of_decide_eq_false hv
          clear hxx hyy
          go_wp2_with fail
          go_quiet_grown (first | (go_at_fn g; refine Calls.grown_of (hc _ _)))
          have S2 : Aside (SWK enc 34 w0 blk off dk (grow (wr.drewN nq) osq)) := S1.out.grown nq osq
          clear la lb hc S1
          generalize grow (wr.drewN nq) osq = w2 at S2 ⊢
          clear nq osq hd hv)
          go_wp2
          go_roundg (c - s)
          case measure => omega
          case rel =>
            rw [hdk, HQ.out] at hL
            exact ⟨s, c, rfl, rfl, hls, hh1, by omega, Nat.le_refl _, hdk ▸ S2, Lib.hid (HI.out.less hO HT.out hl2 hl3 (by omega) (by omega) hh1 hh2 hL)⟩
      · obtain rfl : s = r := by omega
        clear hdk dk
        have h0 : ¬ ((s : Int) < (s : Int)) := by omega
        obtain ⟨e, he⟩ : ∃ e, e = mid + m - s := ⟨_, rfl⟩
        have hez : (mid : Int) + (m : Int) - (s : Int) = (e : Int) := by omega
        have hD := HI.out.done hO HT.out (n := mid + m) (by omega) (by omega) HM.out rfl hp1 he HL.out HH.out
        have hd1 := hD.2.1
        have hd2 := hD.2.2.1
        have hd3 := hD.2.2.2.1
        have hd0 := hD.1
        have HD := Lib.hid hD
        clear hD he
        go_upto_region 38 with fail
        go_cut [24] (fun s24 wc => s24 = .int .i64 e ∧ Aside (SWK enc 34 w0 blk off d wc))
        case first =>
          go_wp2
          go_meet
          case rel => exact ⟨rfl, S1⟩
        case rest =>
          obtain ⟨rfl, S2⟩ := hcut
          go_step
          refine merge_tail enc cf ixf g cb blk off cap a m b mid s e d0 d w0 wc _ hO R hs S2.out HT.out ham hmb hb hsz hm1 hm2 HD.out HIH.out ?_ _ _ _ _ _ _ _ _ _ _ _ _ _ _ _ _ _ _ _ _ _ _ _ _ _ _ _ _ _ _ _ _ _ _ _ _ _ _ _ _ _ _ _ _ _ _ _ _ _ _ _ _ _ _ _ _ _ _ _ _ _ _ _ _ _ _ _ _ _ _ _ _ _ _ _ _ _ _ _ _ _ _ _ _ _ _ _ _ _ _ _ _ _ _ _ _ _ _ _ _ _ _ _ _ _ _ _ _ _ _ _ _ _ _ _ _ _ _ _ _ _ _ _ _ _ _ _ _ _ _ _ _ _ _ _ _ _ _ _ _ _ _ _ _ _ _ _ _ _ _ _ _ _ _ _ _ _ _ _ _ _ _ _ _ _ _ _ _ _ _ _ _ _ _ _ _ _ _ _ _ _ _ _ _ _ _ _ _ _ _ _ _ _ _ _ _ _ _ _ _ _ _ _ _ _ _ _ _ _ _ _ _
          intro a' w' d' hdf h1' h2' h3'
          exact bodyPost_end (results_none rfl a'.tmps Tryz.prog w') hdf ⟨rfl, d', h1', h2', h3'⟩
/-- The merge, at whatever length. -/
theorem GsymMerge_any (enc : α → List Value) (cf : α → α → Int) (ixf : α → Nat) (g : Nat) (cb : Array Value) (blk off cap : Nat) (d0 : Array α) (w0 : World)
    (eg : ∀ args w, (callFunc g args).run Tryz.prog w = .ok (.enter g args) w) (hO : SWO (ltOf cf)) (hcmp : CmpLays Tryz.prog g cb enc 34 cf blk off d0.size w0) (R : RowK enc 34 w0 blk off d0) (hsz : d0.size < 1000000) :
    ∀ (N a m b : Nat) (d : Array α) (w : World), b - a < N → d.size = d0.size → SWK enc 34 w0 blk off d w → Two (ltOf cf) ixf a m b d → a < m → m < b → b ≤ d.size → MergeSays enc cf ixf g cb blk off cap d0 w0 a m b d w
  | 0, a, m, b, d, w, hN, _, _, _, _, _, _ => by omega
  | N + 1, a, m, b, d, w, hN, hs, S, ht, ham, hmb, hb => by
    by_cases h1 : m = a + 1
    · subst h1
      have := GsymMerge_first enc cf ixf g cb blk off cap a b d0 d w0 w eg hO hcmp R hs.symm S ht hmb hb (by omega)
      exact this
    · by_cases h2 : b = m + 1
      · subst h2
        have := GsymMerge_last enc cf ixf g cb blk off cap a m d0 d w0 w eg hO hcmp R hs.symm S ht (by omega) hb (by omega)
        exact this
      · exact GsymMerge_halves enc cf ixf g cb blk off cap a m b d0 d w0 w eg hO hcmp R hs.symm S ht (by omega) (by omega) hb (by omega) (fun a' m' b' d' w' h3 h4 h5 h6 h7 h8 h9 => GsymMerge_any enc cf ixf g cb blk off cap d0 w0 eg hO hcmp R hsz N a' m' b' d' w' (by omega) (h4.trans hs) h5 h6 h7 h8 (by omega))
end
end Go.Proofs.YtkaeoflgnnlbeaaGreatDoor

/- What is proved: all nodes' children, by the program. Conditions: the graph's cells are there. -/
import Derived.Test.YtfpolfcmfdmifaaKt
namespace Go.Proofs.Ytfpolfcmfdmifaa
open Go.RowKit Go.Shelf
set_option linter.unusedVariables false

/-- A row of rows of numbers, all the call's own. -/
structure KidR (w0 w : World) (g N : Nat) (V : Nat → Value) (K : Nat → List Nat) : Prop where
  row : Whole w g 24 (rowC V N)
  own : ∀ k, k < N → w.ownsRow w0.heap.size 3 1 (V k) (K k).length (nC (K k))
  apart : ∀ j k, j < N → k < N → j ≠ k → ∀ b, (V j).ownBlock = some b → (V k).ownBlock ≠ some b
  old : Fr (fun _ => False) w0 w
  new : w0.heap.size ≤ g
theorem KidR.fr {w0 w w' : World} {g N : Nat} {V : Nat → Value} {K : Nat → List Nat} (h : KidR w0 w g N V K) (f : Fr (fun _ => False) w w') : KidR w0 w' g N V K :=
  ⟨h.row.fr f (fun e => e), fun k hk => own_fr (h.own k hk) f (fun _ _ e => e), h.apart, h.old.trans f (fun _ _ e => e), h.new⟩
theorem KidR.base {w0 w1 w : World} {g N : Nat} {V : Nat → Value} {K : Nat → List Nat} (h : KidR w1 w g N V K) (f : Fr (fun _ => False) w0 w1) : KidR w0 w g N V K :=
  ⟨h.row, fun k hk => (OwnN.base (w0 := w0) ⟨h.own k hk, h.old⟩ f).1, h.apart, f.trans h.old (fun _ _ e => e), Nat.le_trans f.size h.new⟩
theorem KidR.congr {w0 w : World} {g N : Nat} {V : Nat → Value} {K K' : Nat → List Nat} (h : KidR w0 w g N V K) (e : ∀ k, k < N → K k = K' k) : KidR w0 w g N V K' :=
  ⟨h.row, fun k hk => by rw [← e k hk]; exact h.own k hk, h.apart, h.old, h.new⟩
theorem KidR.put {w0 w1 w2 : World} {g N : Nat} {V : Nat → Value} {K : Nat → List Nat} (h : KidR w0 w1 g N V K) (p n : Nat) (hp : p < N) (v' : Value) (o1 : w2.ownsRow w0.heap.size 3 1 v' ((K p).length + 1) (nC (K p) ++ nC [n])) (g1 : w1.grownBy w2 (V p).ownBlock) (at1 : v'.ownBlock = (V p).ownBlock ∨ v'.ownBlock = some w1.heap.size) :
    KidR w0 (w2.setCell ⟨g, p, none⟩ v') g N (fun j => if j = p then v' else V j) (fun j => if j = p then K p ++ [n] else K j) := by
  have f12 : Fr (fun j => (V p).ownBlock = some j) w1 w2 := (Fr.refl _ w1).grown g1 (fun j e _ => e)
  have f23 : Fr (fun j => j = g) w2 (w2.setCell ⟨g, p, none⟩ v') := (Fr.refl (fun j => j = g) w2).setCell (p := ⟨g, p, none⟩) (fun _ => rfl) v'
  have hr2 : Whole w2 g 24 (rowC V N) := h.row.fr f12 (fun e => own_apart (h.own p hp) h.row (by decide) e)
  have ng : ∀ {v : Value} {m : Nat} {xs : List Value}, w2.ownsRow w0.heap.size 3 1 v m xs → v.ownBlock ≠ some g := fun ho => own_apart ho hr2 (by decide)
  have own2 : ∀ k, k < N → k ≠ p → w2.ownsRow w0.heap.size 3 1 (V k) (K k).length (nC (K k)) := fun k hk hne => own_fr (h.own k hk) f12 (fun j hj e => h.apart k p hk hp hne j hj e)
  refine ⟨hr2.rset p v' hp _ (fun j hj => rfl), fun k hk => ?_, fun j k hj hk hne b hb => ?_, ?_, h.new⟩
  · by_cases e : k = p
    · subst e
      simp only [if_true]
      rw [List.length_append, nC_append]
      exact own_fr o1 f23 (fun j hj e => ng o1 (by rw [hj, show j = g from e]))
    · simp only [if_neg e]
      exact own_fr (own2 k hk e) f23 (fun j hj e2 => ng (own2 k hk e) (by rw [hj, show j = g from e2]))
  · by_cases e1 : j = p
    · subst e1
      simp only [if_true] at hb
      simp only [if_neg (Ne.symm hne)]
      rcases at1 with a | a
      · exact h.apart j k hj hk hne b (by rw [← a]; exact hb)
      · intro hk2
        have := own_lt (h.own k hk) hk2
        rw [a] at hb
        injection hb with hb
        omega
    · simp only [if_neg e1] at hb
      by_cases e2 : k = p
      · subst e2
        simp only [if_true]
        rcases at1 with a | a
        · rw [a]; exact h.apart j k hj hk hne b hb
        · intro hk2
          have := own_lt (h.own j hj) hb
          rw [a] at hk2
          injection hk2 with hk2
          omega
      · simp only [if_neg e2]
        exact h.apart j k hj hk hne b hb
  · exact (h.old.trans f12 (fun j hj e => by have := (World.ownsRow.lt (h.own p hp) j e).1; omega)).trans f23 (fun j hj e => by have := h.new; have e2 : j = g := e; omega)

/-- What Children leaves. -/
def KidE (w w' : World) (e : Ending) (E : Int) (N : Nat) (K : Nat → List Nat) : Prop := (E = 0 → ∃ g V, e = .returned (.tuple #[.slice (some ⟨g, 0, none⟩) N N, .int .i64 0]) ∧ KidR w w' g N V K) ∧ (¬ E = 0 → e = .returned (.tuple #[.slice none 0 0, .int .i64 E]) ∧ Fr (fun _ => False) w w')

set_option maxHeartbeats 3200000 in
set_option maxRecDepth 100000 in
theorem DaChildren_any (A : Option Addr) (c : Nat) (G : List Nd) (w : World) (hG : GAt w A G) :
    Calls Try.prog 10 #[.slice A G.length c] w fun e w' => KidE w w' e (chkG G) G.length (kidsF (prG G) G.length) := by
  have HChk := Lib.hid (DaCheck_any A c G w hG)
  by_cases hE : chkG G = 0
  · obtain ⟨i0, hii, hz0, hz1, hz2⟩ := info_parts info_int
    have hR := right_of (chk_ok hE)
    rw [hE] at HChk ⊢
    have hmk := make_intss G.length (by have := hR.len; omega)
    have HG := Lib.hid (fun w' (f : Fr (fun _ => False) w w') n hn => hG.node f n hn)
    have HKin := Lib.hid (kin_at hG hR)
    have HNat := Lib.hid hR.nat
    have HLt := Lib.hid (pr_lt hR)
    have HFew := Lib.hid hR.few
    have hlen := hR.len
    have HK0 := Lib.hid (fun n k => kidP_zero (prG G) n k)
    have HK1 := Lib.hid (fun n k => kidP_end (prG G) n k)
    have HKs := Lib.hid (fun n i k h => kidP_succ (prG G) n i k h)
    have HKl := Lib.hid (fun k n i hn hi => kidP_len hR.few k n i hn hi)
    have HKe : Hid (∀ k, kidsF (prG G) 0 k = []) := Lib.hid (fun k => rfl)
    obtain ⟨N, hN⟩ : ∃ N, G.length = N := ⟨_, rfl⟩
    have HN := Lib.hid hN
    rw [hN] at HChk hmk HKin HLt HFew hlen HKl ⊢
    clear hE hR hG hN
    go_enter Try.func10, Try.ntmps10
    go_upto_region 4 with (go_at_call 11; refine HChk.out.mono ?_; rintro e w1 ⟨rfl, b1⟩; have HF1 := Lib.hid (Fr.of_below (S := fun _ => False) b1); clear b1)
    obtain ⟨w2, hw2⟩ : ∃ w2, w1.alloc (.cells (rowC (fun _ => .slice none 0 0) N) 24) = w2 := ⟨_, rfl⟩
    obtain ⟨g, hg⟩ : ∃ g, w1.heap.size = g := ⟨_, rfl⟩
    have HR0 := Lib.hid (show KidR w w2 g N (fun _ => .slice none 0 0) (kidsF (prG G) 0) from ⟨by subst hw2; subst hg; exact Whole.new w1 24 _, fun k hk => by rw [HKe.out]; exact World.ownsRow_nil w2 w.heap.size 3 1, fun j k _ _ _ b hb => by simp [Value.ownBlock] at hb, by subst hw2; exact HF1.out.alloc _, by have := HF1.out.size; omega⟩)
    have hmk1 := hmk w1
    rw [hw2, hg] at hmk1
    clear hmk hw2 hg
    go_upto_region 5 with fail
    clear hmk1
    go_wp2
    go_loopg [20] N (fun kx s20 wr => ∃ (k : Nat) (V : Nat → Value), s20 = .int .i64 k ∧ k ≤ N ∧ N - k ≤ kx ∧ Hid (KidR w wr g N V (kidsF (prG G) k)))
    case atStart => exact ⟨0, _, rfl, by omega, by omega, HR0⟩
    case round =>
      obtain ⟨n, V, rfl, hn, hnx, HW⟩ := hrel
      obtain ⟨wo, rfl⟩ : ∃ wo, wo = wr := ⟨wr, rfl⟩
      have wn := wrap_nat1 n (by omega)
      by_cases hlt : n < N
      · have hltz : (n : Int) < N := by omega
        have hn0 : (0 : Int) ≤ (n : Int) := by omega
        have hnG : n < G.length := by rw [HN.out]; omega
        obtain ⟨bb, o, hBk, ca, cb, hli, hlc⟩ := HG.out wo HW.out.old n hnG
        subst hBk
        have HNt := HNat.out n hnG
        rw [HNt.2] at ca
        have hfew := HFew.out n hlt
        have HLt1 := Lib.hid (HLt.out n hlt)
        have HK0n := Lib.hid (HK0.out n)
        have HK1n := Lib.hid (HK1.out n)
        have HKsn := Lib.hid (HKs.out n)
        have HKln := Lib.hid (fun k i hi => HKl.out k n i (by omega) hi)
        obtain ⟨ps, hps⟩ : ∃ ps, prG G n = ps := ⟨_, rfl⟩
        obtain ⟨Ap, hAp⟩ : ∃ A, G[n].A = A := ⟨_, rfl⟩
        obtain ⟨cp, hcp⟩ : ∃ A, G[n].c = A := ⟨_, rfl⟩
        obtain ⟨td, htd⟩ : ∃ A, G[n].t = A := ⟨_, rfl⟩
        rw [hps, hAp, hcp] at ca
        rw [htd] at cb
        have cb2 : wo.cell? ⟨bb, o + n * 2 + 1, none⟩ = some (.int .i64 td) := by rw [Nat.add_assoc]; exact cb
        have HPl := Lib.hid (fun (w' : World) (f : Fr (fun _ => False) w w') k (hk : k < ps.length) => lies_nat (show Lies w' Ap (nC ps) from by
          obtain ⟨_, _, _, _, _, h3, _⟩ := HG.out w' f n hnG
          rw [HNt.1, hps, hAp] at h3
          exact h3) (Fr.refl (fun _ => False) w') k hk)
        rw [hps] at hfew HLt1 HK1n HKsn
        obtain ⟨P, hP⟩ : ∃ P, ps.length = P := ⟨_, rfl⟩
        rw [hP] at hfew ca HPl HLt1 HK1n HKsn
        obtain ⟨w1, hw1⟩ : ∃ w1, wo.alloc (.cells #[.slice Ap P cp, .int .i64 td] 55) = w1 := ⟨_, rfl⟩
        have HF1 := Lib.hid (show Fr (fun _ => False) wo w1 from by subst hw1; exact (Fr.refl (fun _ => False) wo).alloc _)
        have hW1 : Whole w1 wo.heap.size 55 #[.slice Ap P cp, .int .i64 td] := by subst hw1; exact Whole.new wo 55 _
        have d0 : w1.cell? ⟨wo.heap.size, 0, none⟩ = some (.slice Ap P cp) := by rw [hW1.cell]; rfl
        have HR1 := Lib.hid (show KidR w w1 g N V (kidP (prG G) n 0) from (HW.out.fr HF1.out).congr (fun k _ => (HK0n.out k).symm))
        clear hps hAp hcp htd hP HNt hnG hli hlc hW1
        go_wp2
        go_loopg [28] P (fun kx s28 wr => ∃ (i : Nat) (V : Nat → Value), s28 = .int .i64 i ∧ i ≤ P ∧ P - i ≤ kx ∧ Hid (KidR w wr g N V (kidP (prG G) n i)))
        case atStart => exact ⟨0, V, rfl, by omega, by omega, HR1⟩
        case round =>
          obtain ⟨i, Vi, rfl, hi, hix, HRi⟩ := hrel
          obtain ⟨wi, rfl⟩ : ∃ wi, wi = wr := ⟨wr, rfl⟩
          have wi1 := wrap_nat1 i (by omega)
          by_cases hiP : i < P
          · have hiz : (i : Int) < P := by omega
            obtain ⟨b3, o3, hB3, cp3⟩ := HPl.out wi HRi.out.old i hiP
            subst hB3
            have hxn := HLt1.out i hiP
            have HKs1 := Lib.hid (fun k => HKsn.out i k hiP)
            obtain ⟨x, hxd⟩ : ∃ x, ps.getD i 0 = x := ⟨_, rfl⟩
            rw [hxd] at cp3 hxn HKs1
            have hxN : x < N := by omega
            have hkl := HKln.out x i (by omega)
            have c1 := HRi.out.row.rcell x hxN
            obtain ⟨Ax, cx, hvx, hcx1, hcx2⟩ := own_slice (HRi.out.own x hxN)
            have HVx := Lib.hid hvx
            rw [hvx] at c1
            obtain ⟨w3, hw3⟩ : ∃ w3, wi.alloc (.cells #[.int .i64 (n : Nat)] 3) = w3 := ⟨_, rfl⟩
            have HF3 := Lib.hid (show Fr (fun _ => False) wi w3 from by subst hw3; exact (Fr.refl (fun _ => False) wi).alloc _)
            have HSrc := Lib.hid (show Src Try.prog 1 24 (.slice (some ⟨wi.heap.size, 0, none⟩) 1 1) 1 (nC [n]) w3 from by subst hw3; exact src_one Try.underlying24 wi _ rfl)
            have HR3 := Lib.hid (HRi.out.fr HF3.out)
            have HBase : Hid (w.heap.size ≤ w3.heap.size) := Lib.hid HR3.out.old.size
            have hox := HR3.out.own x hxN
            rw [hvx] at hox
            have HOx := Lib.hid hox
            obtain ⟨l, hl⟩ : ∃ l, kidP (prG G) n i x = l := ⟨_, rfl⟩
            have HLl := Lib.hid hl
            rw [hl] at hkl c1 HOx
            obtain ⟨ll, hll⟩ : ∃ n, l.length = n := ⟨_, rfl⟩
            have HLL := Lib.hid hll
            rw [hll] at hkl c1 HOx
            have hx0 : (0 : Int) ≤ (x : Int) := by omega
            have hxz : (x : Int) < (N : Int) := by omega
            clear hxd hvx hox hl hll hcx1 hcx2
            go_wp2_with (at_builtin; refine wpList_append_row _ rfl (.tmp 37) (.tmp 39) 24 24 rfl w.heap.size 3 i0 (.int .i64 0) 1 8 Try.underlying24 hii hz0 hz1 hz2 rfl (.slice Ax ll cx) ll (nC l) rfl HOx.out (.slice (some ⟨wi.heap.size, 0, none⟩) 1 1) 1 (nC [n]) rfl HSrc.out (by unfold maxLen; omega) (by omega) HBase.out ?_
                         intro v' w4 o1 g1 at1
                         obtain ⟨A', c', hv', _, _⟩ := own_slice o1
                         subst hv'
                         have o2 : w4.ownsRow w.heap.size 3 1 (.slice A' (ll + 1) c') ((kidP (prG G) n i x).length + 1) (nC (kidP (prG G) n i x) ++ nC [n]) := by rw [HLl.out, HLL.out]; exact o1
                         have g2 : w3.grownBy w4 (Vi x).ownBlock := by rw [HVx.out, HLl.out, HLL.out]; exact g1
                         have a2 : (Value.slice A' (ll + 1) c').ownBlock = (Vi x).ownBlock ∨ (Value.slice A' (ll + 1) c').ownBlock = some w3.heap.size := by rw [HVx.out, HLl.out, HLL.out]; exact at1
                         have HR4 := Lib.hid (HR3.out.put x n hxN (.slice A' (ll + 1) c') o2 g2 a2)
                         have HW4 := Lib.hid (show Whole w4 g 24 (rowC Vi N) from HR3.out.row.fr ((Fr.refl (fun j => (Vi x).ownBlock = some j) w3).grown g2 (fun j e _ => e)) (fun e => own_apart (HR3.out.own x hxN) HR3.out.row (by decide) e))
                         have d4 := HW4.out.rcell x hxN
                         have e4 := HW4.out.frozen x
                         clear o1 g1 at1 o2 g2 a2)
            go_roundg (P - (i + 1))
            case measure => omega
            case rel => exact ⟨i + 1, _, by go_num, by omega, Nat.le_refl _, Lib.hid (HR4.out.congr (fun k hk => by
              rw [HKs1.out k]
              by_cases e : k = x
              · rw [if_pos e, if_pos e.symm, e]
              · rw [if_neg e, if_neg (Ne.symm e)]))⟩
          · obtain rfl : i = P := by omega
            have HRn := Lib.hid (HRi.out.congr (fun k _ => HK1n.out k))
            go_wp2
            go_roundg (N - (n + 1))
            case measure => omega
            case rel => exact ⟨n + 1, _, by go_num, by omega, Nat.le_refl _, HRn⟩
      · obtain rfl : n = N := by omega
        go_wp2
        go_ret2
        exact ⟨fun _ => ⟨g, V, rfl, HW.out⟩, fun e => absurd rfl e⟩
  · obtain ⟨E, hEE⟩ : ∃ E, chkG G = E := ⟨_, rfl⟩
    rw [hEE] at hE HChk ⊢
    have HE := Lib.hid hE
    have hen : (E == 0) = false := by simpa using hE
    clear hG hEE
    go_enter Try.func10, Try.ntmps10
    go_wp2_with (go_at_call 11; refine HChk.out.mono ?_; rintro e w1 ⟨rfl, b1⟩; have HF1 := Lib.hid (Fr.of_below (S := fun _ => False) b1); clear b1)
    go_ret2
    exact ⟨fun e => absurd e HE.out, fun _ => ⟨rfl, HF1.out⟩⟩
end Go.Proofs.Ytfpolfcmfdmifaa

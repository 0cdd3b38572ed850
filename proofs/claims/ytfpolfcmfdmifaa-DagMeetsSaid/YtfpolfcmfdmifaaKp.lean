/- What is proved: whether two lists of numbers are one; the numbers that are true; ancestors, by the document. Conditions: the cells are there, the graph right. -/
import Derived.Test.YtfpolfcmfdmifaaKm
import Derived.Test.YtfpolfcmfdmifaaKn
namespace Go.Proofs.Ytfpolfcmfdmifaa
open Go.RowKit Go.Shelf
set_option linter.unusedVariables false

theorem ne_at {a b : List Nat} {k : Nat} (h : ¬ a.getD k 0 = b.getD k 0) : ¬ a = b := fun e => h (by rw [e])
theorem eq_all {a b : List Nat} (hl : a.length = b.length) (h : ∀ k, k < a.length → a.getD k 0 = b.getD k 0) : a = b := by
  apply List.ext_getElem hl
  intro i h1 h2
  have := h i h1
  rwa [List.getD_eq_getElem?_getD, List.getD_eq_getElem?_getD, List.getElem?_eq_getElem h1, List.getElem?_eq_getElem h2] at this

set_option maxHeartbeats 1600000 in
set_option maxRecDepth 100000 in
theorem QaSame_any (A : Option Addr) (ca : Nat) (a : List Nat) (B : Option Addr) (cb : Nat) (b : List Nat) (ha : a.length ≤ 100000) (w : World) (h1 : Lies w A (nC a)) (h2 : Lies w B (nC b)) :
    Calls Try.prog 13 #[.slice A a.length ca, .slice B b.length cb] w fun e w' => e = .returned (.bool (decide (a = b))) ∧ Below w.heap.size w w' := by
  have HA := Lib.hid (fun w' (f : Fr (fun _ => False) w w') k hk => lies_nat h1 f k hk)
  have HB := Lib.hid (fun w' (f : Fr (fun _ => False) w w') k hk => lies_nat h2 f k hk)
  have HNe := Lib.hid (fun (k : Nat) (hh : ¬ a.getD k 0 = b.getD k 0) => decide_eq_false (ne_at hh))
  have HEq := Lib.hid (fun hl hh => decide_eq_true (eq_all (a := a) (b := b) hl hh))
  by_cases hl : a.length = b.length
  · have HEq2 := Lib.hid (HEq.out hl)
    obtain ⟨R, hR⟩ : ∃ R, decide (a = b) = R := ⟨_, rfl⟩
    rw [hR] at HNe HEq2 ⊢
    obtain ⟨n, hn⟩ : ∃ n, a.length = n := ⟨_, rfl⟩
    have hnb : b.length = n := by rw [← hl, hn]
    rw [hn] at ha HA HEq2 ⊢
    rw [hnb] at HB ⊢
    clear h1 h2 hl hR hn hnb HEq
    go_enter Try.func13, Try.ntmps13
    go_wp2
    go_loopg [5] n (fun kx s5 wr => ∃ k : Nat, s5 = .int .i64 k ∧ k ≤ n ∧ n - k ≤ kx ∧ Hid (Fr (fun _ => False) w wr) ∧ Hid (∀ i, i < k → a.getD i 0 = b.getD i 0))
    case atStart => exact ⟨0, rfl, by omega, by omega, Lib.hid (Fr.refl _ _), Lib.hid (fun i hi => by omega)⟩
    case round =>
      obtain ⟨k, rfl, hk, hkx, HFr, HI⟩ := hrel
      obtain ⟨wo, rfl⟩ : ∃ wo, wo = wr := ⟨wr, rfl⟩
      by_cases hlt : k < n
      · have hltz : (k : Int) < n := by omega
        obtain ⟨b1, o1, hB1, c1⟩ := HA.out wo HFr.out k hlt
        subst hB1
        obtain ⟨b2, o2, hB2, c2⟩ := HB.out wo HFr.out k hlt
        subst hB2
        have wk := wrap_nat1 k (by omega)
        have HNk := Lib.hid (HNe.out k)
        obtain ⟨x, hx⟩ : ∃ x, a.getD k 0 = x := ⟨_, rfl⟩
        obtain ⟨y, hy⟩ : ∃ y, b.getD k 0 = y := ⟨_, rfl⟩
        have HX := Lib.hid hx
        have HY := Lib.hid hy
        rw [hx] at c1 HNk
        rw [hy] at c2 HNk
        clear hx hy
        by_cases e : x = y
        · subst e
          go_upto_region 6 with fail
          go_quiet (fail)
          go_wp2
          go_roundg (n - (k + 1))
          case measure => omega
          case rel => exact ⟨k + 1, by go_num, by omega, Nat.le_refl _, Lib.hid (HFr.out.drewN _), Lib.hid (fun i hi => (by omega : i < k ∨ i = k).elim (HI.out i) (fun q => by rw [q, HX.out, HY.out]))⟩
        · have HE := Lib.hid (HNk.out e)
          have ez : ¬ ((x : Int) = (y : Int)) := by omega
          have eb : ((x : Int) == (y : Int)) = false := by simpa using ez
          go_upto_region 6 with fail
          go_quiet (fail)
          go_wp2
          go_ret
          exact ⟨by rw [HE.out]; rfl, (HFr.out.drewN _).below (fun _ _ e => e)⟩
      · obtain rfl : k = n := by omega
        have HE := Lib.hid (HEq2.out HI.out)
        go_wp2
        go_ret
        exact ⟨by rw [HE.out]; rfl, HFr.out.below (fun _ _ e => e)⟩
  · have HE : Hid (decide (a = b) = false) := Lib.hid (decide_eq_false (fun e => hl (by rw [e])))
    obtain ⟨R, hR⟩ : ∃ R, decide (a = b) = R := ⟨_, rfl⟩
    rw [hR] at HE ⊢
    obtain ⟨n, hn⟩ : ∃ n, a.length = n := ⟨_, rfl⟩
    obtain ⟨m, hm⟩ : ∃ n, b.length = n := ⟨_, rfl⟩
    rw [hn, hm] at hl ⊢
    have ez : ¬ ((n : Int) = (m : Int)) := by omega
    have eb : ((n : Int) == (m : Int)) = false := by simpa using ez
    clear h1 h2 hR hn hm HEq HNe hl HA HB
    go_enter Try.func13, Try.ntmps13
    go_wp2
    go_ret
    exact ⟨by rw [HE.out]; rfl, Below.refl _ _⟩

set_option maxHeartbeats 1600000 in
set_option maxRecDepth 100000 in
theorem QaList_any (g N : Nat) (f : Nat → Bool) (hN : N ≤ 100000) (w : World) (h : Whole w g 4 (rowC (boolC f) N)) :
    Calls Try.prog 19 #[.slice (some ⟨g, 0, none⟩) N N] w fun e w' => ∃ v, e = .returned v ∧ OwnN w w' v (selB f N) := by
  obtain ⟨i0, hi, hz0, hz1, hz2⟩ := info_parts info_int
  have HMb := Lib.hid h
  have HS := Lib.hid (selB_succ f)
  have HLen := Lib.hid (selB_len f)
  clear h
  go_enter Try.func19, Try.ntmps19
  go_wp2
  go_loopg [3, 4] N (fun kx s3 s4 wr => ∃ (k : Nat) (v : Value), s4 = .int .i64 k ∧ v = s3 ∧ k ≤ N ∧ N - k ≤ kx ∧ Hid (OwnN w wr v (selB f k)))
  case atStart => exact ⟨0, .slice none 0 0, rfl, rfl, by omega, by omega, Lib.hid (OwnN.nil (Fr.refl _ _))⟩
  case round =>
    obtain ⟨k, v, rfl, rfl, hk, hkx, HO⟩ := hrel
    obtain ⟨wo, rfl⟩ : ∃ wo, wo = wr := ⟨wr, rfl⟩
    have wk := wrap_nat1 k (by omega)
    by_cases hlt : k < N
    · have hltz : (k : Int) < N := by omega
      have cm := (HMb.out.fr HO.out.2 (fun e => e)).rcell k hlt
      simp only [boolC] at cm
      have HSk := Lib.hid (HS.out k)
      have hLk := HLen.out k
      obtain ⟨b, hb⟩ : ∃ b, f k = b := ⟨_, rfl⟩
      rw [hb] at cm HSk
      obtain ⟨w1, hw1⟩ : ∃ w1, wo.alloc (.cells #[.int .i64 (k : Nat)] 3) = w1 := ⟨_, rfl⟩
      have HF1 := Lib.hid (show Fr (fun _ => False) wo w1 from by subst hw1; exact (Fr.refl (fun _ => False) wo).alloc _)
      have HSrc := Lib.hid (show Src Try.prog 1 24 (.slice (some ⟨wo.heap.size, 0, none⟩) 1 1) 1 (nC [k]) w1 from by subst hw1; exact src_one Try.underlying24 wo _ rfl)
      have HO1 := Lib.hid (HO.out.fr HF1.out)
      obtain ⟨l, hl⟩ : ∃ l, selB f k = l := ⟨_, rfl⟩
      rw [hl] at HSk hLk HO1 HO
      have HBase : Hid (w.heap.size ≤ w1.heap.size) := Lib.hid HO1.out.2.size
      clear hl hb
      cases b
      · have HE : Hid (selB f (k + 1) = l) := Lib.hid (by rw [HSk.out]; simp)
        go_wp2
        go_roundg (N - (k + 1))
        case measure => omega
        case rel => exact ⟨k + 1, v, by go_num, rfl, by omega, Nat.le_refl _, Lib.hid (by rw [HE.out]; exact HO.out)⟩
      · have HE : Hid (selB f (k + 1) = l ++ [k]) := Lib.hid (by rw [HSk.out]; simp)
        go_wp2_with (at_builtin; refine wpList_append_row _ rfl (.tmp 15) (.tmp 17) 24 24 rfl w.heap.size 3 i0 (.int .i64 0) 1 8 Try.underlying24 hi hz0 hz1 hz2 rfl v l.length (nC l) rfl HO1.out.1 (.slice (some ⟨wo.heap.size, 0, none⟩) 1 1) 1 (nC [k]) rfl HSrc.out (by unfold maxLen; omega) (by omega) HBase.out ?_
                     intro v' w4 o1 g1 at1
                     have HO4 := Lib.hid (HO1.out.grow o1 g1)
                     clear o1 g1 at1)
        go_roundg (N - (k + 1))
        case measure => omega
        case rel => exact ⟨k + 1, v', by go_num, rfl, by omega, Nat.le_refl _, Lib.hid (by rw [HE.out]; exact HO4.out)⟩
    · obtain rfl : k = N := by omega
      go_wp2
      go_ret
      exact ⟨v, rfl, HO.out⟩

/-- A row of truths that a call has made. -/
structure OwB (w w' : World) (g N : Nat) (f : Nat → Bool) : Prop where
  row : Whole w' g 4 (rowC (boolC f) N)
  old : Fr (fun _ => False) w w'
  new : w.heap.size ≤ g
theorem OwB.set {w w' : World} {g N : Nat} {f : Nat → Bool} (h : OwB w w' g N f) (k : Nat) (hk : k < N) (b : Bool) (f' : Nat → Bool) (hf : ∀ j, j < N → (if j = k then b else f j) = f' j) : OwB w (w'.setCell ⟨g, k, none⟩ (.bool b)) g N f' :=
  ⟨h.row.rset k _ hk _ (fun j hj => by
    have := hf j hj
    unfold boolC
    by_cases e : j = k
    · rw [if_pos e] at this ⊢; rw [this]
    · rw [if_neg e] at this ⊢; rw [this]), h.old.trans ((Fr.refl (fun j => j = g) w').setCell (p := ⟨g, k, none⟩) (fun _ => rfl) _) (fun j hj e => by have := h.new; omega), h.new⟩
theorem OwB.fr {w w' w2 : World} {g N : Nat} {f : Nat → Bool} (h : OwB w w' g N f) (k : Fr (fun _ => False) w' w2) : OwB w w2 g N f := ⟨h.row.fr k (fun e => e), h.old.trans k (fun _ _ e => e), h.new⟩
theorem OwB.base {w0 w w' : World} {g N : Nat} {f : Nat → Bool} (h : OwB w w' g N f) (k : Fr (fun _ => False) w0 w) : OwB w0 w' g N f := ⟨h.row, k.trans h.old (fun _ _ e => e), Nat.le_trans k.size h.new⟩
theorem passB_succ (pr : Nat → List Nat) (n : Nat) (B : Nat → Bool) : passB pr (n + 1) B = passB pr n (fun k => B k || (B n && decide (k ∈ pr n))) := rfl

set_option maxHeartbeats 3200000 in
set_option maxRecDepth 100000 in
theorem QaUp_any (A : Option Addr) (c : Nat) (G : List Nd) (B : Option Addr) (cB : Nat) (l : List Nat) (hR : RightG G) (hn : l.length ≤ 100000) (hl : ∀ x ∈ l, x < G.length) (w : World) (hG : GAt w A G) (h : Lies w B (nC l)) :
    Calls Try.prog 20 #[.slice A G.length c, .slice B l.length cB] w fun e w' => ∃ g, e = .returned (.slice (some ⟨g, 0, none⟩) G.length G.length) ∧ OwB w w' g G.length (upB (prG G) G.length l) := by
  have hmk := make_bools G.length (by have := hR.len; omega) w
  have HG := Lib.hid (fun w' (f : Fr (fun _ => False) w w') n hn => hG.node f n hn)
  have HLs := Lib.hid (fun w' (f : Fr (fun _ => False) w w') k hk => lies_nat h f k hk)
  have HX : Hid (∀ k, k < l.length → l.getD k 0 < G.length) := Lib.hid (fun k hk => hl _ (by rw [List.getD_eq_getElem?_getD, List.getElem?_eq_getElem hk]; exact List.getElem_mem hk))
  have HNat := Lib.hid hR.nat
  have HDn := Lib.hid hR.dn
  have HFew := Lib.hid hR.few
  have HT : Hid (passB (prG G) G.length (fun k => decide (k ∈ l)) = upB (prG G) G.length l) := Lib.hid rfl
  have HTl := Lib.hid (List.take_length (l := l))
  have HTk := Lib.hid (nat_snoc l)
  have hlen := hR.len
  have HPs := Lib.hid (passB_succ (prG G))
  have HP0 : Hid (∀ f, passB (prG G) 0 f = f) := Lib.hid (fun f => rfl)
  obtain ⟨N, hN⟩ : ∃ N, G.length = N := ⟨_, rfl⟩
  have HN := Lib.hid hN
  obtain ⟨L, hL⟩ : ∃ L, l.length = L := ⟨_, rfl⟩
  rw [hN] at hmk HX HDn HFew HT hlen ⊢
  rw [hL] at hn HLs HX HTl HTk ⊢
  obtain ⟨T, hTT⟩ : ∃ T, upB (prG G) N l = T := ⟨_, rfl⟩
  rw [hTT] at HT ⊢
  obtain ⟨w1, hw1⟩ : ∃ w1, w.alloc (.cells (rowC (boolC fun _ => false) N) 4) = w1 := ⟨_, rfl⟩
  rw [hw1] at hmk
  obtain ⟨g, hg⟩ : ∃ g, w.heap.size = g := ⟨_, rfl⟩
  have HO0 := Lib.hid (show OwB w w1 g N (fun _ => false) from ⟨by subst hw1; subst hg; exact Whole.new w 4 _, by subst hw1; exact (Fr.refl (fun _ => False) w).alloc _, by omega⟩)
  rw [hg] at hmk
  clear hG h hR hl hN hL hTT hw1 hg
  go_enter Try.func20, Try.ntmps20
  go_upto_region 2 with fail
  clear hmk
  go_wp2
  go_loopg [6] L (fun kx s6 wr => ∃ k : Nat, s6 = .int .i64 k ∧ k ≤ L ∧ L - k ≤ kx ∧ Hid (OwB w wr g N (fun j => decide (j ∈ l.take k))))
  case atStart => exact ⟨0, rfl, by omega, by omega, Lib.hid (by simpa using HO0.out)⟩
  case round =>
    obtain ⟨k, rfl, hk, hkx, HO⟩ := hrel
    obtain ⟨wo, rfl⟩ : ∃ wo, wo = wr := ⟨wr, rfl⟩
    have wk := wrap_nat1 k (by omega)
    by_cases hlt : k < L
    · have hltz : (k : Int) < L := by omega
      obtain ⟨bb, o, hBk, cx⟩ := HLs.out wo HO.out.old k hlt
      subst hBk
      have hx := HX.out k hlt
      have HTk1 := Lib.hid (HTk.out k hlt)
      obtain ⟨x, hxd⟩ : ∃ x, l.getD k 0 = x := ⟨_, rfl⟩
      rw [hxd] at cx hx HTk1
      have cm := HO.out.row.rcell x hx
      have fm := HO.out.row.frozen x
      simp only [boolC] at cm
      obtain ⟨b, hb⟩ : ∃ b, decide (x ∈ l.take k) = b := ⟨_, rfl⟩
      rw [hb] at cm
      have hx0 : (0 : Int) ≤ (x : Int) := by omega
      have hxz : (x : Int) < (N : Int) := by omega
      have HS := Lib.hid (HO.out.set x hx true (fun j => decide (j ∈ l.take (k + 1))) (fun j hj => by
        rw [HTk1.out]
        by_cases e : j = x
        · simp [e]
        · simp [e]))
      clear hxd hb
      go_wp2
      go_roundg (L - (k + 1))
      case measure => omega
      case rel => exact ⟨k + 1, by go_num, by omega, Nat.le_refl _, HS⟩
    · obtain rfl : k = L := by omega
      have HO2 := Lib.hid (show OwB w wo g N (fun j => decide (j ∈ l)) from by have := HO.out; rwa [HTl.out] at this)
      have wN : IntKind.i64.wrap ((N : Int) - 1) = (N : Int) - 1 := by rw [IntKind.wrap_i64]; omega
      go_wp2
      go_loopg [7] N (fun kx s7 wr => ∃ (m : Nat) (f : Nat → Bool), s7 = .int .i64 ((m : Int) - 1) ∧ m ≤ N ∧ m ≤ kx ∧ Hid (OwB w wr g N f) ∧ Hid (passB (prG G) m f = T))
      case atStart => exact ⟨N, _, rfl, Nat.le_refl _, Nat.le_refl _, HO2, HT⟩
      case round =>
        obtain ⟨m, f, rfl, hm, hmx, HOm, HTm⟩ := hrel
        obtain ⟨wi, rfl⟩ : ∃ wi, wi = wr := ⟨wr, rfl⟩
        rcases Nat.eq_zero_or_pos m with h0 | h0
        · subst h0
          rw [HP0.out] at HTm
          go_wp2
          go_ret
          exact ⟨g, rfl, by rw [← HTm.out]; exact HOm.out⟩
        · obtain ⟨n, rfl⟩ : ∃ n, m = n + 1 := ⟨m - 1, by omega⟩
          rw [show ((n + 1 : Nat) : Int) - 1 = (n : Int) by omega]
          have hnz : (n : Int) < (N : Int) := by omega
          have hn0 : (0 : Int) ≤ (n : Int) := by omega
          have HTn := Lib.hid (show passB (prG G) n (fun k => f k || (f n && decide (k ∈ prG G n))) = T from by rw [← HPs.out]; exact HTm.out)
          have hnG : n < G.length := by rw [HN.out]; omega
          have hfew := HFew.out n (by omega)
          have HNt := HNat.out n hnG
          have HPl := Lib.hid (fun w' (f2 : Fr (fun _ => False) w w') => show ∃ bb o, A = some ⟨bb, o, none⟩ ∧ w'.cell? ⟨bb, o + n * 2, none⟩ = some (.slice G[n].A (prG G n).length G[n].c) ∧ Lies w' G[n].A (nC (prG G n)) from by
            obtain ⟨bb, o, h1, h2, _, h3, _⟩ := HG.out w' f2 n hnG
            rw [HNt.2] at h2
            rw [HNt.1] at h3
            exact ⟨bb, o, h1, h2, h3⟩)
          have HDp := Lib.hid (fun p hp => HDn.out n (by omega) p hp)
          obtain ⟨ps, hps⟩ : ∃ ps, prG G n = ps := ⟨_, rfl⟩
          obtain ⟨Ap, hAp⟩ : ∃ A, G[n].A = A := ⟨_, rfl⟩
          obtain ⟨cp, hcp⟩ : ∃ A, G[n].c = A := ⟨_, rfl⟩
          rw [hps] at HTn hfew HDp
          rw [hps, hAp, hcp] at HPl
          have wn : IntKind.i64.wrap ((n : Int) - 1) = (n : Int) - 1 := by rw [IntKind.wrap_i64]; omega
          obtain ⟨P, hP⟩ : ∃ P, ps.length = P := ⟨_, rfl⟩
          have HPp := Lib.hid hP
          rw [hP] at hfew HPl
          clear hps hAp hcp HNt hP hnG
          obtain ⟨b, hb⟩ : ∃ b, f n = b := ⟨_, rfl⟩
          have HBn := Lib.hid hb
          rw [hb] at HTn
          clear hb
          cases b
          · have HTn2 := Lib.hid (show passB (prG G) n f = T from by rw [← HTn.out]; congr 1; funext j; simp)
            have cm := HOm.out.row.rcell n (by omega)
            simp only [boolC, HBn.out] at cm
            go_wp2
            go_loopg [8] 1 (fun kx s8 wr => s8 = .int .i64 0 ∧ wi = wr)
            case atStart => exact ⟨rfl, rfl⟩
            case round =>
              obtain ⟨rfl, rfl⟩ := hrel
              go_wp2
              go_roundg n
              case measure => omega
              case rel => exact ⟨n, f, by go_num, by omega, Nat.le_refl _, HOm, HTn2⟩
          · go_wp2
            go_loopg [8] P (fun kx s8 wr => ∃ j : Nat, s8 = .int .i64 j ∧ j ≤ P ∧ P - j ≤ kx ∧ Hid (OwB w wr g N (fun k => f k || decide (k ∈ ps.take j))))
            case atStart => exact ⟨0, rfl, by omega, by omega, Lib.hid (by simpa using HOm.out)⟩
            case round =>
              obtain ⟨j, rfl, hj, hjx, HOj⟩ := hrel
              obtain ⟨wj, rfl⟩ : ∃ wj, wj = wr := ⟨wr, rfl⟩
              have wj1 := wrap_nat1 j (by omega)
              have cn := HOj.out.row.rcell n (by omega)
              simp only [boolC, HBn.out, Bool.true_or] at cn
              obtain ⟨bb, o, hBk, ca, hli⟩ := HPl.out wj HOj.out.old
              subst hBk
              by_cases hjP : j < P
              · have hjz : (j : Int) < P := by omega
                obtain ⟨b3, o3, hB3, cp3⟩ := lies_nat hli (Fr.refl _ wj) j (by rw [HPp.out]; exact hjP)
                subst hB3
                have hxn : ps.getD j 0 < n := HDp.out _ (by rw [List.getD_eq_getElem?_getD, List.getElem?_eq_getElem (by rw [HPp.out]; exact hjP)]; exact List.getElem_mem _)
                have HTk1 := Lib.hid (nat_snoc ps j (by rw [HPp.out]; exact hjP))
                obtain ⟨x, hxd⟩ : ∃ x, ps.getD j 0 = x := ⟨_, rfl⟩
                rw [hxd] at cp3 hxn HTk1
                have cm := HOj.out.row.rcell x (by omega)
                have fm := HOj.out.row.frozen x
                simp only [boolC] at cm
                obtain ⟨b4, hb4⟩ : ∃ b, (f x || decide (x ∈ ps.take j)) = b := ⟨_, rfl⟩
                rw [hb4] at cm
                have hx0 : (0 : Int) ≤ (x : Int) := by omega
                have hxz : (x : Int) < (N : Int) := by omega
                have HS := Lib.hid (HOj.out.set x (by omega) true (fun k => f k || decide (k ∈ ps.take (j + 1))) (fun k hk => by
                  rw [HTk1.out]
                  by_cases e : k = x
                  · simp [e]
                  · simp [e]))
                clear hxd hb4 hli
                go_wp2
                go_roundg (P - (j + 1))
                case measure => omega
                case rel => exact ⟨j + 1, by go_num, by omega, Nat.le_refl _, HS⟩
              · obtain rfl : j = P := by omega
                have HOe := Lib.hid (show OwB w wj g N (fun k => f k || (true && decide (k ∈ ps))) from by
                  have := HOj.out
                  rw [← HPp.out, List.take_length] at this
                  simpa using this)
                clear hli
                go_wp2
                go_roundg n
                case measure => omega
                case rel => exact ⟨n, _, by go_num, by omega, Nat.le_refl _, HOe, HTn⟩
end Go.Proofs.Ytfpolfcmfdmifaa

/- What is proved: who is ready, all times, nodes alone, by the program. Conditions: the cells are there. -/
import Derived.Test.YtpaigmmpihcdaaaJk
namespace Go.Proofs.Ytpaigmmpihcdaaa
open Go.RowKit Go.Shelf
set_option linter.unusedVariables false

set_option maxHeartbeats 1600000 in
set_option maxRecDepth 100000 in
theorem Orready_any (gl gh ga N : Nat) (gv : Value) (has : Nat → Bool) (ah : Nat → Nat) (x : Nat) (hx : x < N) (hN : N ≤ 1000) (w : World) (hL : Whole w gl 60 #[gv, .slice (some ⟨gh, 0, none⟩) N N, .slice (some ⟨ga, 0, none⟩) N N]) (hH : Whole w gh 4 (rowC (boolC has) N)) (hA : Whole w ga 3 (rowC (intC ah) N)) :
    Calls Try.prog 32 #[.pointer (some ⟨gl, 0, none⟩), .int .i64 x] w fun e w' => e = .returned (.bool (rdyF has ah x)) ∧ w = w' := by
  have c1 : w.cell? ⟨gl, 1, none⟩ = some (.slice (some ⟨gh, 0, none⟩) N N) := by rw [hL.cell]; rfl
  have c2 : w.cell? ⟨gl, 2, none⟩ = some (.slice (some ⟨ga, 0, none⟩) N N) := by rw [hL.cell]; rfl
  have c3 := hH.rcell x hx
  have c4 := hA.rcell x hx
  simp only [boolC, intC] at c3 c4
  have HV : Hid (rdyF has ah x = (has x && decide (ah x = 0))) := Lib.hid rfl
  obtain ⟨v, hv⟩ : ∃ v, rdyF has ah x = v := ⟨_, rfl⟩
  rw [hv] at HV ⊢
  obtain ⟨b, hb⟩ : ∃ b, has x = b := ⟨_, rfl⟩
  obtain ⟨a, ha⟩ : ∃ a, ah x = a := ⟨_, rfl⟩
  rw [hb] at c3 HV
  rw [ha] at c4 HV
  have hx0 : (0 : Int) ≤ (x : Int) := by omega
  have hxz : (x : Int) < (N : Int) := by omega
  clear hL hH hA hv hb ha hx
  cases b
  · have HE := Lib.hid (show v = false from HV.out)
    clear HV
    go_enter Try.func32, Try.ntmps32
    go_wp2
    go_ret
    exact ⟨by rw [HE.out]; rfl, rfl⟩
  · have HE := Lib.hid (show v = decide (a = 0) from HV.out)
    clear HV
    by_cases ha : a = 0
    · have HE2 := Lib.hid (show v = true from by rw [HE.out]; exact decide_eq_true ha)
      subst ha
      go_enter Try.func32, Try.ntmps32
      go_wp2
      go_ret
      exact ⟨by rw [HE2.out]; rfl, rfl⟩
    · have HE2 := Lib.hid (show v = false from by rw [HE.out]; exact decide_eq_false ha)
      have hbz : ((a : Int) == 0) = false := by simpa using ha
      clear ha HE
      go_enter Try.func32, Try.ntmps32
      go_wp2
      go_ret
      exact ⟨by rw [HE2.out]; rfl, rfl⟩

/-- Numbers in a row, for those ahead of k; noughts behind. -/
def upC (t : Nat → Int) (k : Nat) : Nat → Value := fun j => .int .i64 (if j < k then t j else 0)
theorem upC_zero (t : Nat → Int) : upC t 0 = intC fun _ => 0 := by funext j; simp [upC, intC]
theorem upC_all (l : List Int) : rowC (upC (fun n => l.getD n 0) l.length) l.length = (zC l).toArray := by
  apply Array.toList_inj.1
  apply List.ext_getElem?
  intro k
  rw [Array.getElem?_toList]
  by_cases h : k < l.length
  · rw [rowC_get _ _ _ h, show (zC l).toArray.toList = zC l from rfl, zC_get l k h]
    simp [upC, h]
  · rw [Array.getElem?_eq_none (by rw [rowC_size]; omega), show (zC l).toArray.toList = zC l from rfl, List.getElem?_eq_none (by rw [zC_len]; omega)]

theorem wrap_big (k : Nat) (h : k ≤ 10000000) : IntKind.i64.wrap ((k : Int) + 1) = (k : Int) + 1 := by rw [IntKind.wrap_i64]; omega
theorem make_ints_big (n : Nat) (hn : n ≤ 10000000) (w : World) : (Instr.makeSlice 23 (.int .i64 n) (.int .i64 n)).run Try.prog w = .ok (.slice (some ⟨w.heap.size, 0, none⟩) n n) (w.alloc (.cells (rowC (intC fun _ => 0) n) 3)) := by
  obtain ⟨i0, hi, hz0, hz1, hz2⟩ := info_parts info_int
  have h := run_make (P := Try.prog) w 23 3 i0 (.int .i64 0) (by kernel_rfl) hi hz0 .i64 .i64 n n (by omega) (by omega) (by rw [hz2]; omega) (by omega)
  rw [Int.toNat_natCast, hz1, Nat.mul_one, made_row _ _ rfl] at h
  exact h
set_option maxHeartbeats 3200000 in
set_option maxRecDepth 100000 in
theorem Ortimes_any (A : Option Addr) (c : Nat) (G : List Nd) (hlen : G.length ≤ 2000000) (w : World) (hG : GAt w A G) :
    Calls Try.prog 24 #[.slice A G.length c] w fun e w' => ∃ g, e = .returned (.slice (some ⟨g, 0, none⟩) G.length G.length) ∧ Whole w' g 3 (zC (timeL G)).toArray ∧ Fr (fun _ => False) w w' ∧ w.heap.size ≤ g := by
  have hmk := make_ints_big G.length (by omega) w
  have HG := Lib.hid (fun w' (f : Fr (fun _ => False) w w') n hn => hG.node f n hn)
  have hTl : (timeL G).length = G.length := by unfold timeL; rw [List.length_map]
  have HT : Hid (∀ k (h : k < G.length), (timeL G).getD k 0 = G[k].t) := Lib.hid (fun k h => by unfold timeL; rw [List.getD_eq_getElem?_getD, List.getElem?_map, List.getElem?_eq_getElem h]; rfl)
  have HE := Lib.hid (upC_all (timeL G))
  rw [hTl] at HE
  obtain ⟨t, ht⟩ : ∃ t : Nat → Int, (fun n => (timeL G).getD n 0) = t := ⟨_, rfl⟩
  have HT2 : Hid (∀ k (h : k < G.length), t k = G[k].t) := Lib.hid (fun k h => by rw [← ht]; exact HT.out k h)
  rw [ht] at HE
  obtain ⟨N, hN⟩ : ∃ N, G.length = N := ⟨_, rfl⟩
  have HN := Lib.hid hN
  rw [hN] at hlen hmk HE ⊢
  obtain ⟨w1, hw1⟩ : ∃ w1, w.alloc (.cells (rowC (intC fun _ => 0) N) 3) = w1 := ⟨_, rfl⟩
  rw [hw1] at hmk
  have HF1 := Lib.hid (show Fr (fun _ => False) w w1 from by subst hw1; exact (Fr.refl _ w).alloc _)
  have HW1 := Lib.hid (show Whole w1 w.heap.size 3 (rowC (upC t 0) N) from by rw [upC_zero]; subst hw1; exact Whole.new w 3 _)
  obtain ⟨g, hg⟩ : ∃ g, w.heap.size = g := ⟨_, rfl⟩
  rw [hg] at hmk HW1
  have HGg := Lib.hid hg
  obtain ⟨R, hR⟩ : ∃ R, (zC (timeL G)).toArray = R := ⟨_, rfl⟩
  rw [hR] at HE ⊢
  clear hG hN hw1 hg hR ht hTl HT
  go_enter Try.func24, Try.ntmps24
  go_upto_region 2 with fail
  clear hmk
  go_wp2
  go_loopg [11] N (fun kx s11 wr => ∃ k : Nat, s11 = .int .i64 k ∧ k ≤ N ∧ N - k ≤ kx ∧ Hid (Fr (fun _ => False) w wr) ∧ Hid (Whole wr g 3 (rowC (upC t k) N)))
  case atStart => exact ⟨0, rfl, by omega, by omega, HF1, HW1⟩
  case round =>
    obtain ⟨k, rfl, hk, hkx, HF, HW⟩ := hrel
    obtain ⟨wo, rfl⟩ : ∃ wo, wo = wr := ⟨wr, rfl⟩
    have wk := wrap_big k (by omega)
    by_cases hlt : k < N
    · have hltz : (k : Int) < N := by omega
      have hk0 : (0 : Int) ≤ (k : Int) := by omega
      have hkG : k < G.length := by rw [HN.out]; exact hlt
      obtain ⟨b, o, hBk, ca, cb, hli, hlc⟩ := HG.out wo HF.out k hkG
      subst hBk
      have HTk := Lib.hid (HT2.out k hkG)
      obtain ⟨Ad, hAd⟩ : ∃ A, G[k].A = A := ⟨_, rfl⟩
      obtain ⟨pd, hpd⟩ : ∃ A, G[k].ps.length = A := ⟨_, rfl⟩
      obtain ⟨cd, hcd⟩ : ∃ A, G[k].c = A := ⟨_, rfl⟩
      obtain ⟨td, htd⟩ : ∃ A, G[k].t = A := ⟨_, rfl⟩
      rw [hAd, hpd, hcd] at ca
      rw [htd] at cb HTk
      have cb2 : wo.cell? ⟨b, o + k * 2 + 1, none⟩ = some (.int .i64 td) := by rw [Nat.add_assoc]; exact cb
      obtain ⟨w2, hw2⟩ : ∃ w2, wo.alloc (.cells #[.slice Ad pd cd, .int .i64 td] 38) = w2 := ⟨_, rfl⟩
      have HF2 := Lib.hid (show Fr (fun _ => False) wo w2 from by subst hw2; exact (Fr.refl (fun _ => False) wo).alloc _)
      have HW2 := Lib.hid (show Whole w2 wo.heap.size 38 #[.slice Ad pd cd, .int .i64 td] from by subst hw2; exact Whole.new wo 38 _)
      have d1 : w2.cell? ⟨wo.heap.size, 1, none⟩ = some (.int .i64 td) := by rw [HW2.out.cell]; rfl
      have HR2 := Lib.hid (HW.out.fr HF2.out (fun e => e))
      have d2 := HR2.out.rcell k hlt
      have f2 := HR2.out.frozen k
      simp only [upC, Nat.lt_irrefl, if_false] at d2
      have HR3 := Lib.hid (HR2.out.rset k (.int .i64 td) hlt (upC t (k + 1)) (fun j hj => by
        unfold upC
        by_cases e : j = k
        · subst e; rw [if_pos rfl, if_pos (by omega), HTk.out]
        · rw [if_neg e]
          by_cases e2 : j < k
          · rw [if_pos e2, if_pos (by omega)]
          · rw [if_neg e2, if_neg (by omega)]))
      have HF3 := Lib.hid (show Fr (fun _ => False) w (w2.setCell ⟨g, k, none⟩ (.int .i64 td)) from (HF.out.trans HF2.out (fun _ _ e => e)).trans ((Fr.refl (fun j => j = g) w2).setCell (p := ⟨g, k, none⟩) (fun _ => rfl) _) (fun j hj e => by have := HGg.out; have e2 : j = g := e; omega))
      clear hAd hpd hcd htd hli hlc hkG
      go_wp2
      go_roundg (N - (k + 1))
      case measure => omega
      case rel => exact ⟨k + 1, by go_num, by omega, Nat.le_refl _, HF3, HR3⟩
    · obtain rfl : k = N := by omega
      go_wp2
      go_ret
      exact ⟨g, rfl, by rw [← HE.out]; exact HW.out, HF.out, by have := HGg.out; omega⟩

theorem flat_lenJ (G : List Nd) : (flatG G).length = G.length * 2 := by
  induction G with
  | nil => rfl
  | cons d G ih => rw [flatG, List.flatMap_cons, List.length_append, ← flatG, ih, List.length_cons]; simp [nodeV]; omega
/-- Nodes without parents. -/
def aloG (G : List Nd) : List Nd := G.map fun d => ⟨none, 0, [], d.t⟩
def aloC (t : Nat → Int) (k : Nat) : Nat → Value := fun j => if j % 2 = 0 then .slice none 0 0 else .int .i64 (if j / 2 < k then t (j / 2) else 0)
theorem alo_len (G : List Nd) : (aloG G).length = G.length := by unfold aloG; rw [List.length_map]
theorem alo_time (G : List Nd) : timeL (aloG G) = timeL G := by unfold aloG timeL; rw [List.map_map]; rfl
theorem alo_get (G : List Nd) (k : Nat) (h : k < (aloG G).length) : (aloG G)[k] = ⟨none, 0, [], (timeL G).getD k 0⟩ := by
  have h2 : k < G.length := by rw [← alo_len]; exact h
  have e : (timeL G).getD k 0 = G[k].t := by unfold timeL; rw [List.getD_eq_getElem?_getD, List.getElem?_map, List.getElem?_eq_getElem h2]; rfl
  rw [e]
  simp [aloG]
theorem alo_flat (G : List Nd) : rowC (aloC (fun n => (timeL G).getD n 0) G.length) (G.length * 2) = (flatG (aloG G)).toArray := by
  apply Array.toList_inj.1
  apply List.ext_getElem?
  intro j
  rw [Array.getElem?_toList]
  by_cases h : j < G.length * 2
  · rw [rowC_get _ _ _ h, show (flatG (aloG G)).toArray.toList = flatG (aloG G) from rfl]
    have hk : j / 2 < (aloG G).length := by rw [alo_len]; omega
    obtain ⟨h1, h2⟩ := flatG_get (aloG G) (j / 2) hk
    rw [alo_get G _ hk] at h1 h2
    unfold aloC
    by_cases e : j % 2 = 0
    · rw [if_pos e, show j = j / 2 * 2 by omega, h1]; rfl
    · rw [if_neg e, if_pos (by omega)]
      have e2 : j = j / 2 * 2 + 1 := by omega
      conv => rhs; rw [e2]
      rw [h2]
  · rw [Array.getElem?_eq_none (by rw [rowC_size]; omega), show (flatG (aloG G)).toArray.toList = flatG (aloG G) from rfl, List.getElem?_eq_none (by rw [flat_lenJ, alo_len]; omega)]
theorem alo_at {w : World} {g : Nat} {G : List Nd} (h : Whole w g 38 (flatG (aloG G)).toArray) : GAt w (some ⟨g, 0, none⟩) (aloG G) := by
  refine ⟨Lies.of_whole h, fun d hd => ?_⟩
  obtain ⟨k, hk, rfl⟩ := List.getElem_of_mem hd
  rw [alo_get G k hk]
  exact ⟨Nat.le_refl _, .inl rfl⟩
theorem alo_pr (G : List Nd) : prG (aloG G) = fun _ => [] := by
  funext n
  unfold prG
  by_cases h : n < (aloG G).length
  · rw [getD_nd _ n h, alo_get G n h]; rfl
  · rw [List.getD_eq_getElem?_getD, List.getElem?_eq_none (by omega)]; rfl
theorem alo_ok {G : List Nd} (h : chkG G = 0) : chkG (aloG G) = 0 := by
  have h1 := chk_ok h
  unfold okG at h1
  rw [Bool.and_eq_true, decide_eq_true_eq, Bool.not_eq_true', List.any_eq_false] at h1
  refine okG_ok (by rw [alo_len]; omega) (fun n hn => ?_)
  rw [getD_nd _ n hn, alo_get G n hn]
  have hn2 : n < G.length := by rw [← alo_len]; exact hn
  have h2 := h1.2 n (List.mem_range.2 hn2)
  rw [getD_nd G n hn2] at h2
  have h3 : okN n G[n] = true := by simpa using h2
  unfold okN at h3 ⊢
  rw [Bool.and_eq_true, Bool.and_eq_true, Bool.and_eq_true] at h3
  have e : (timeL G).getD n 0 = G[n].t := by unfold timeL; rw [List.getD_eq_getElem?_getD, List.getElem?_map, List.getElem?_eq_getElem hn2]; rfl
  simp only [e, h3.2.1, h3.2.2.1]
  simp

theorem info_node : (Try.prog.info? 38).map (fun i => (i.zero, i.size, i.bytes)) = some (some (.agg #[.slice none 0 0, .int .i64 0]), 2, 32) := by kernel_rfl
theorem made_nodes (t : Nat → Int) (n : Nat) : madeCells (Value.agg #[.slice none 0 0, .int .i64 0]).cells (n * 2) = rowC (aloC t 0) (n * 2) := by
  have e : (Value.agg #[.slice none 0 0, .int .i64 0]).cells = #[.slice none 0 0, .int .i64 0] := by rfl
  rw [e]
  apply Array.toList_inj.1
  apply List.ext_getElem?
  intro j
  rw [Array.getElem?_toList, Array.getElem?_toList]
  by_cases h : j < n * 2
  · rw [rowC_get _ _ _ h]
    have : (madeCells #[.slice none 0 0, .int .i64 0] (n * 2))[j]? = some ((#[.slice none 0 0, .int .i64 0] : Array Value)[j % 2]!) := by
      simp [madeCells, h]
    rw [this]
    unfold aloC
    rcases (by omega : j % 2 = 0 ∨ j % 2 = 1) with e1 | e1
    · rw [e1]; rfl
    · rw [e1]; rfl
  · rw [Array.getElem?_eq_none (by rw [size_madeCells]; omega), Array.getElem?_eq_none (by rw [rowC_size]; omega)]
theorem make_nodes (t : Nat → Int) (n : Nat) (hn : n ≤ 1000) (w : World) : (Instr.makeSlice 22 (.int .i64 n) (.int .i64 n)).run Try.prog w = .ok (.slice (some ⟨w.heap.size, 0, none⟩) n n) (w.alloc (.cells (rowC (aloC t 0) (n * 2)) 38)) := by
  obtain ⟨i0, hi, hz0, hz1, hz2⟩ := info_parts info_node
  have h := run_make (P := Try.prog) w 22 38 i0 _ (by kernel_rfl) hi hz0 .i64 .i64 n n (by omega) (by omega) (by rw [hz2]; omega) (by omega)
  rw [Int.toNat_natCast, hz1, made_nodes t] at h
  exact h

set_option maxHeartbeats 3200000 in
set_option maxRecDepth 100000 in
theorem Oralone_any (A : Option Addr) (c : Nat) (G : List Nd) (hlen : G.length ≤ 1000) (w : World) (hG : GAt w A G) :
    Calls Try.prog 20 #[.slice A G.length c] w fun e w' => ∃ g, e = .returned (.slice (some ⟨g, 0, none⟩) G.length G.length) ∧ GAt w' (some ⟨g, 0, none⟩) (aloG G) ∧ Fr (fun _ => False) w w' := by
  have hmk := make_nodes (fun n => (timeL G).getD n 0) G.length (by omega) w
  have HG := Lib.hid (fun w' (f : Fr (fun _ => False) w w') n hn => hG.node f n hn)
  have HT : Hid (∀ k (h : k < G.length), (timeL G).getD k 0 = G[k].t) := Lib.hid (fun k h => by unfold timeL; rw [List.getD_eq_getElem?_getD, List.getElem?_map, List.getElem?_eq_getElem h]; rfl)
  have HE := Lib.hid (alo_flat G)
  have HAt := Lib.hid (fun (w' : World) (g : Nat) (h : Whole w' g 38 (flatG (aloG G)).toArray) => alo_at h)
  obtain ⟨t, ht⟩ : ∃ t : Nat → Int, (fun n => (timeL G).getD n 0) = t := ⟨_, rfl⟩
  have HT2 : Hid (∀ k (h : k < G.length), t k = G[k].t) := Lib.hid (fun k h => by rw [← ht]; exact HT.out k h)
  rw [ht] at HE hmk
  obtain ⟨N, hN⟩ : ∃ N, G.length = N := ⟨_, rfl⟩
  have HN := Lib.hid hN
  rw [hN] at hlen hmk HE ⊢
  obtain ⟨w1, hw1⟩ : ∃ w1, w.alloc (.cells (rowC (aloC t 0) (N * 2)) 38) = w1 := ⟨_, rfl⟩
  rw [hw1] at hmk
  have HF1 := Lib.hid (show Fr (fun _ => False) w w1 from by subst hw1; exact (Fr.refl _ w).alloc _)
  have HW1 := Lib.hid (show Whole w1 w.heap.size 38 (rowC (aloC t 0) (N * 2)) from by subst hw1; exact Whole.new w 38 _)
  obtain ⟨g, hg⟩ : ∃ g, w.heap.size = g := ⟨_, rfl⟩
  rw [hg] at hmk HW1
  have HGg := Lib.hid hg
  obtain ⟨R, hR⟩ : ∃ R, aloG G = R := ⟨_, rfl⟩
  rw [hR] at HE HAt ⊢
  clear hG hN hw1 hg hR ht HT
  go_enter Try.func20, Try.ntmps20
  go_upto_region 2 with fail
  clear hmk
  go_wp2
  go_loopg [11] N (fun kx s11 wr => ∃ k : Nat, s11 = .int .i64 k ∧ k ≤ N ∧ N - k ≤ kx ∧ Hid (Fr (fun _ => False) w wr) ∧ Hid (Whole wr g 38 (rowC (aloC t k) (N * 2))))
  case atStart => exact ⟨0, rfl, by omega, by omega, HF1, HW1⟩
  case round =>
    obtain ⟨k, rfl, hk, hkx, HF, HW⟩ := hrel
    obtain ⟨wo, rfl⟩ : ∃ wo, wo = wr := ⟨wr, rfl⟩
    have wk := wrap_nat1 k (by omega)
    by_cases hlt : k < N
    · have hltz : (k : Int) < N := by omega
      have hk0 : (0 : Int) ≤ (k : Int) := by omega
      have hkG : k < G.length := by rw [HN.out]; exact hlt
      obtain ⟨b, o, hBk, ca, cb, hli, hlc⟩ := HG.out wo HF.out k hkG
      subst hBk
      have HTk := Lib.hid (HT2.out k hkG)
      obtain ⟨Ad, hAd⟩ : ∃ A, G[k].A = A := ⟨_, rfl⟩
      obtain ⟨pd, hpd⟩ : ∃ A, G[k].ps.length = A := ⟨_, rfl⟩
      obtain ⟨cd, hcd⟩ : ∃ A, G[k].c = A := ⟨_, rfl⟩
      obtain ⟨td, htd⟩ : ∃ A, G[k].t = A := ⟨_, rfl⟩
      rw [hAd, hpd, hcd] at ca
      rw [htd] at cb HTk
      have cb2 : wo.cell? ⟨b, o + k * 2 + 1, none⟩ = some (.int .i64 td) := by rw [Nat.add_assoc]; exact cb
      obtain ⟨w2, hw2⟩ : ∃ w2, wo.alloc (.cells #[.slice Ad pd cd, .int .i64 td] 38) = w2 := ⟨_, rfl⟩
      have HF2 := Lib.hid (show Fr (fun _ => False) wo w2 from by subst hw2; exact (Fr.refl (fun _ => False) wo).alloc _)
      have HW2 := Lib.hid (show Whole w2 wo.heap.size 38 #[.slice Ad pd cd, .int .i64 td] from by subst hw2; exact Whole.new wo 38 _)
      have d1 : w2.cell? ⟨wo.heap.size, 1, none⟩ = some (.int .i64 td) := by rw [HW2.out.cell]; rfl
      have HR2 := Lib.hid (HW.out.fr HF2.out (fun e => e))
      have hk2 : k * 2 + 1 < N * 2 := by omega
      have d2 := HR2.out.rcell (k * 2 + 1) hk2
      have f2 := HR2.out.frozen (k * 2 + 1)
      have e21 : (k * 2 + 1) % 2 = 1 := by omega
      have e22 : (k * 2 + 1) / 2 = k := by omega
      simp only [aloC, e21, e22, Nat.lt_irrefl, if_false, Nat.one_ne_zero] at d2
      have HR3 := Lib.hid (HR2.out.rset (k * 2 + 1) (.int .i64 td) hk2 (aloC t (k + 1)) (fun j hj => by
        unfold aloC
        by_cases e : j = k * 2 + 1
        · subst e; rw [if_pos rfl, if_neg (by omega), if_pos (by omega), e22, HTk.out]
        · rw [if_neg e]
          by_cases e1 : j % 2 = 0
          · rw [if_pos e1, if_pos e1]
          · rw [if_neg e1, if_neg e1]
            by_cases e2 : j / 2 < k
            · rw [if_pos e2, if_pos (by omega)]
            · rw [if_neg e2, if_neg (by omega)]))
      have HF3 := Lib.hid (show Fr (fun _ => False) w (w2.setCell ⟨g, k * 2 + 1, none⟩ (.int .i64 td)) from (HF.out.trans HF2.out (fun _ _ e => e)).trans ((Fr.refl (fun j => j = g) w2).setCell (p := ⟨g, k * 2 + 1, none⟩) (fun _ => rfl) _) (fun j hj e => by have := HGg.out; have e2 : j = g := e; omega))
      clear hAd hpd hcd htd hli hlc hkG e21 e22 hk2
      go_wp2
      go_roundg (N - (k + 1))
      case measure => omega
      case rel => exact ⟨k + 1, by go_num, by omega, Nat.le_refl _, HF3, HR3⟩
    · obtain rfl : k = N := by omega
      go_wp2
      go_ret
      exact ⟨g, rfl, HAt.out _ _ (by rw [← HE.out]; exact HW.out), HF.out⟩
end Go.Proofs.Ytpaigmmpihcdaaa

/- What is proved: what the library's Compact leaves of a list of ids of the call's own that is in order: each once. Conditions: the list lies in a block. -/
import Derived.Test.YtbfbgopbelmghaaOsb
import Derived.Test.YtbfbgopbelmghaaOjf
namespace Go.Proofs.Ytbfbgopbelmghaa
open Go.RowKit
set_option linter.unusedVariables false

theorem dd_short (ns : List Nat) (h : ns.length < 2) : ddL ns = ns := by
  match ns, h with
  | [], _ => rfl
  | [x], _ => rfl
theorem take_last (ns : List Nat) (k : Nat) (h : k < ns.length) : (ns.take (k + 1)).getLast? = some (gt ns k) := by
  rw [take_snoc ns k h]; simp
theorem sle_take (ns : List Nat) (k : Nat) (h : sle ns) : sle (ns.take k) := fun i j hij hj => by
  rw [List.length_take] at hj
  have e : ∀ i, i < k → gt (ns.take k) i = gt ns i := fun i hi => by
    rw [gt, gt, List.getD_eq_getElem?_getD, List.getD_eq_getElem?_getD, List.getElem?_take, if_pos hi]
  rw [e i (by omega), e j (by omega)]
  exact h i j hij (by omega)
theorem GCompact_short (v : Value) (A : Option Addr) (n c : Nat) (hv : v = .slice A n c) (hn : n < 2) (w : World) : Calls Try.prog 40 #[v] w fun e w' => e = .returned v ∧ w = w' := by
  subst hv
  have hn2 : (n : Int) < 2 := by omega
  go_enter Try.func40, Try.ntmps40
  go_wp2
  go_ret
  exact ⟨rfl, rfl⟩
theorem load_off {w w' : World} {g o k : Nat} {ns : List Nat} {i n : Nat} (cx : Array Value) (hc : idC (dgt n) = cx) (h : Lies w (some ⟨g, 0, none⟩) (flatI ns)) (ho : o = i * 32) (hi : ns[i]? = some n) (f : Fr (fun _ => False) w w') (m : Nat) (hm : m = 32) : (loadCellsFrom ⟨g, o, none⟩ 0 m #[]).run Try.prog w' = .ok cx w' := by
  subst hc; subst ho; subst hm
  have := load_at h hi f
  rwa [Nat.zero_add] at this
theorem range_off {w w' : World} {g o : Nat} {ns : List Nat} {i n : Nat} (cx : Array Value) (hc : idC (dgt n) = cx) (h : Lies w (some ⟨g, 0, none⟩) (flatI ns)) (ho : o = i * 32) (hi : ns[i]? = some n) (f : Fr (fun _ => False) w w') : w'.rangeAt g o cx.toList := by
  subst ho
  have := range_cx cx hc h hi f
  rwa [Nat.zero_add] at this
theorem mix_get (C ns : List Nat) (kk i : Nat) (hC : C.length = kk) (hi : kk ≤ i) : (C ++ ns.drop kk)[i]? = ns[i]? := by
  rw [List.getElem?_append_right (by omega), hC, List.getElem?_drop, show kk + (i - kk) = i by omega]
theorem mix_set (C ns : List Nat) (kk x : Nat) (hC : C.length = kk) (hk : kk < ns.length) : (C ++ ns.drop kk).set kk x = (C ++ [x]) ++ ns.drop (kk + 1) := by
  rw [List.set_append_right _ _ (by omega), hC, Nat.sub_self, List.drop_eq_getElem_cons hk, List.set_cons_zero, List.append_assoc]; rfl
theorem own_store {w0 w w' : World} {g n c : Nat} {M : List Nat} (h : OwnI w0 w (.slice (some ⟨g, 0, none⟩) n c) M) (i x : Nat) (hi : i < n) (cur : Array Value) (hW : Whole w g 23 cur) (cx : Array Value) (hcx : idC (dgt x) = cx)
    (hW' : Whole w' g 23 (laidAt cur (i * 32) cx)) (f : Fr (fun k => k = g) w w') : OwnI w0 w' (.slice (some ⟨g, 0, none⟩) n c) (M.set i x) := by
  subst hcx
  obtain ⟨cur0, hW0, hs0, hl, hnc, hcm, hb, ht⟩ := own_cur h
  have e : cur0 = cur := by
    have h1 : w.heap[g]? = some (.cells cur0 23 (0, 0)) := hW0
    have h2 : w.heap[g]? = some (.cells cur 23 (0, 0)) := hW
    rw [h1] at h2
    injection h2 with h2
    injection h2 with h2
  subst e
  have hfit : i * 32 + 32 ≤ cur0.size := by
    rw [hs0]
    have := Nat.mul_le_mul_right 32 (show i + 1 ≤ c by omega)
    omega
  refine own_mk h hW' f (by rw [laidAt_size _ _ _ (by rw [idC_size]; exact hfit), hs0]) n (by rw [List.length_set, hl]) (Nat.le_refl _) ?_
  have := set_flat M i x (by omega) cur0.toList (by rw [hl]; exact ht) (by rw [hl, Array.length_toList, hs0]; exact Nat.mul_le_mul_right 32 hnc)
  rw [hl] at this
  rw [← this, laidAt, idC_size]

theorem wpList_clear {ops : Array Oper} {rest : List Oper} {op : Oper} {a : Act} {w : World} {Q : Exit → Act → World → Prop} (hgd : op.guard = none) (x : Operand) (ho : op.op = .call { callee := .builtin .clear, args := #[x], argTypes := #[44] })
    (g o m c : Nat) (hx : a.eval x = .slice (some ⟨g, o, none⟩) m c) (cur : Array Value) (hg : Whole w g 23 cur) (hm : 0 < m) (hfit : o + m * 32 ≤ cur.size)
    (h : ∀ w' cur', Whole w' g 23 cur' → Fr (fun k => k = g) w w' → cur'.size = cur.size → cur'.toList.take o = cur.toList.take o → wpList Try.prog ops Q rest (a.put op.dst (.tuple #[])) w') : wpList Try.prog ops Q (op :: rest) a w :=
  wpList_plain hgd fun K hK => by
    obtain ⟨w', cur', hrun, h1, h2, h3, h4⟩ := run_clear hg hm hfit op.type (c := c)
    unfold Oper.wp execOp
    simp only [ho, resolve, invoke, builtin, Sem.run_bind, Sem.run_pure, Result.andThen_ok, List.map_toArray, List.map_cons, List.map_nil, hx, hrun]
    exact hK _ _ (h w' cur' h1 h2 h3 h4)
theorem own_cut {w0 w w' : World} {g n c : Nat} {C M : List Nat} (h : OwnI w0 w (.slice (some ⟨g, 0, none⟩) n c) M) (kk : Nat) (hk : kk ≤ n) (hM : M.take kk = C) (cur cur' : Array Value) (hW : Whole w g 23 cur) (hW' : Whole w' g 23 cur') (f : Fr (fun k => k = g) w w') (hs : cur'.size = cur.size) (ht : cur'.toList.take (kk * 32) = cur.toList.take (kk * 32)) :
    OwnI w0 w' (.slice (some ⟨g, 0, none⟩) kk c) C := by
  obtain ⟨cur0, hW0, hs0, hl, hnc, hcm, hb, ht0⟩ := own_cur h
  have e : cur0 = cur := by
    have h1 : w.heap[g]? = some (.cells cur0 23 (0, 0)) := hW0
    have h2 : w.heap[g]? = some (.cells cur 23 (0, 0)) := hW
    rw [h1] at h2
    injection h2 with h2
    injection h2 with h2
  subst e
  refine own_mk h hW' f (by rw [hs, hs0]) kk (by rw [← hM, List.length_take, hl]; omega) hk ?_
  rw [ht, ← hM, flatI_take, ← ht0, List.take_take, Nat.min_eq_left (Nat.mul_le_mul_right 32 hk)]

set_option maxHeartbeats 6400000 in
theorem GCompact_any (w0 w : World) (g c n : Nat) (ns : List Nat) (hb : ∀ n ∈ ns, n < big) (hs : sle ns) (h2 : 2 ≤ n) (hn : n ≤ 1000) (ho : OwnI w0 w (.slice (some ⟨g, 0, none⟩) n c) ns) :
    Calls Try.prog 40 #[.slice (some ⟨g, 0, none⟩) n c] w fun e w' => ∃ v, e = .returned v ∧ OwnI w0 w' v (ddL ns) := by
  obtain ⟨cur, hW, hcs, hl, hnc, hcm, hbase, htk⟩ := own_cur ho
  have HO := Lib.hid ho
  have HB := Lib.hid hb
  have HS := Lib.hid hs
  have HLn := Lib.hid hl
  obtain ⟨T32, hT32⟩ : ∃ T : TypeId, T = 23 := ⟨_, rfl⟩
  obtain ⟨n32, hn32⟩ : ∃ n : Nat, n = 32 := ⟨_, rfl⟩
  have ag32 : ∀ w, (isAgg T32).run Try.prog w = .ok true w := by rw [hT32]; exact fun _ => by kernel_rfl
  have sz32 : ∀ w, (sizeOf T32).run Try.prog w = .ok n32 w := by rw [hT32, hn32]; exact fun _ => by kernel_rfl
  have hgi := guardI
  have HN32 := Lib.hid hn32
  have HNC := Lib.hid hnc
  have hn2 : ¬ ((n : Int) < 2) := by omega
  clear hW hcs hl hcm hbase htk ho hb hs hn32 hnc
  go_enter Try.func40, Try.ntmps40
  rw [show Op.load 23 (.tmp 18) = Op.load T32 (.tmp 18) by rw [hT32], show Op.load 23 (.tmp 23) = Op.load T32 (.tmp 23) by rw [hT32], show Op.load 23 (.tmp 37) = Op.load T32 (.tmp 37) by rw [hT32], show Op.load 23 (.tmp 42) = Op.load T32 (.tmp 42) by rw [hT32]]
  clear hT32
  go_wp2
  go_loopw [3] (fun i wr => ∃ k : Nat, k < n ∧ i = .int .i64 ((k : Int) + 1) ∧ Hid (ddL (ns.take (k + 1)) = ns.take (k + 1)) ∧ Fr (fun _ => False) w wr) (fun i _ => n + 1 - (intOf i).toNat)
  case atStart => exact ⟨0, by omega, rfl, Lib.hid (dd_short _ (by rw [List.length_take]; omega)), Fr.refl _ _⟩
  case round =>
    obtain ⟨k, hk, rfl, hdd, hf⟩ := hrel
    obtain ⟨wo, rfl⟩ : ∃ wo, wo = wr := ⟨wr, rfl⟩
    have HFr := Lib.hid hf
    have wk := wrap_nat k (by omega)
    have wk1 := wrap_nat1 k (by omega)
    have tn1 := toNat_nat1 k
    have nn1 := nonneg_nat1 k
    by_cases hlt : k + 1 < n
    · have HLI := Lib.hid (show Lies wo (some ⟨g, 0, none⟩) (flatI ns) from by have := (HO.out.fr hf).1; rw [HLn.out] at this; exact Lies.of_own32 this)
      have hka := gt_some ns k (by rw [HLn.out]; omega)
      have hkb := gt_some ns (k + 1) (by rw [HLn.out]; omega)
      have hma := HB.out _ (gt_mem ns k (by rw [HLn.out]; omega))
      have hmb := HB.out _ (gt_mem ns (k + 1) (by rw [HLn.out]; omega))
      obtain ⟨ca, hca⟩ : ∃ c, idC (dgt (gt ns k)) = c := ⟨_, rfl⟩
      obtain ⟨cb, hcb⟩ : ∃ c, idC (dgt (gt ns (k + 1))) = c := ⟨_, rfl⟩
      have l1 : ∀ q : Later wo, (loadCellsFrom ⟨g, k * 32, none⟩ 0 n32 #[]).run Try.prog q.w' = .ok ca q.w' := fun q => load_off (k := k) ca hca HLI.out rfl hka q.fr n32 HN32.out
      have l2 : ∀ q : Later wo, (loadCellsFrom ⟨g, (k + 1) * 32, none⟩ 0 n32 #[]).run Try.prog q.w' = .ok cb q.w' := fun q => load_off (k := k) cb hcb HLI.out rfl hkb q.fr n32 HN32.out
      have heq := fun w => eq_nums (gt ns (k + 1)) (gt ns k) hmb hma w
      obtain ⟨s, hsx⟩ : ∃ s, (gt ns (k + 1) == gt ns k) = s := ⟨_, rfl⟩
      rw [hca, hcb, hsx] at heq
      have HSs := Lib.hid hsx
      have hk1 : (k : Int) + 1 < n := by omega
      have hk0 : (k : Int) < n := by omega
      clear hka hkb hma hmb hca hcb hsx hf
      cases s
      · have HDN : Hid (ddL (ns.take (k + 1 + 1)) = ns.take (k + 1 + 1)) := Lib.hid (by
          rw [take_snoc ns (k + 1) (by rw [HLn.out]; omega), dd_snoc, hdd.out, ddS, if_neg (fun e => by
            rw [take_last ns k (by rw [HLn.out]; omega)] at e
            have := HSs.out
            injection e with e
            rw [e] at this
            simp at this)])
        go_wp2_with fail
        refine wp_region_later (w0 := wo) (Fr.refl _ _) (by kernel_rfl) (by kernel_rfl) ?_
        repeat (quiet_step (fail))
        refine wpQuiet_nil ?_
        intro _ hw'
        obtain ⟨q, hw''⟩ := hw'
        subst hw''
        go_wp2_with fail
        go_roundw
        case rel => exact ⟨k + 1, by omega, by go_num, HDN.out, HFr.out.trans q.fr (fun _ _ e => e)⟩
        case measure => simp [intOf]; omega
      · have hck : ¬ c = k + 1 := by have := HNC.out; omega
        have HD0 : Hid (ddL (ns.take (k + 1 + 1)) = ns.take (k + 1)) := Lib.hid (by
          rw [take_snoc ns (k + 1) (by rw [HLn.out]; omega), dd_snoc, hdd.out, ddS, if_pos (by rw [take_last ns k (by rw [HLn.out]; omega), eq_of_beq HSs.out])])
        go_wp2_with fail
        refine wp_region_later (w0 := wo) (Fr.refl _ _) (by kernel_rfl) (by kernel_rfl) ?_
        repeat (quiet_step (fail))
        refine wpQuiet_nil ?_
        intro _ hw'
        obtain ⟨q, hw''⟩ := hw'
        subst hw''
        have HOq := Lib.hid (HO.out.fr (HFr.out.trans q.fr (fun _ _ e => e)))
        clear l1 l2 heq
        go_wp2_with fail
        go_loopw [3, 5] (fun s3 s5 wr => ∃ kk j : Nat, s3 = .int .i64 kk ∧ s5 = .int .i64 ((j : Int) + 1) ∧ kk ≤ k + 1 + j ∧ k + 1 + j + 1 ≤ n ∧ Hid ((ddL (ns.take (k + 1 + j + 1))).length = kk) ∧ Hid (OwnI w0 wr (.slice (some ⟨g, 0, none⟩) n c) (ddL (ns.take (k + 1 + j + 1)) ++ ns.drop kk))) (fun _ s5 _ => n - (intOf s5).toNat)
        case atStart =>
          refine ⟨k + 1, 0, by go_num, rfl, by omega, by omega, Lib.hid (by rw [Nat.add_zero, HD0.out, List.length_take, HLn.out]; omega), Lib.hid ?_⟩
          rw [Nat.add_zero, HD0.out, List.take_append_drop]
          exact HOq.out
        case round =>
          obtain ⟨kk, j, rfl, rfl, hkj, hjn, hCl, hown⟩ := hrel
          obtain ⟨wi, rfl⟩ : ∃ wi, wi = wr := ⟨wr, rfl⟩
          have wj := wrap_nat j (by omega)
          have wj1 := wrap_nat1 j (by omega)
          have tj1 := toNat_nat1 j
          have nj1 := nonneg_nat1 j
          have wkk := wrap_nat kk (by omega)
          have wkk1 := wrap_nat1 kk (by omega)
          obtain ⟨R, hR⟩ : ∃ R, n - (k + 1) = R := ⟨_, rfl⟩
          have HLw := Lib.hid (show Lies wi (some ⟨g, 0, none⟩) (flatI (ddL (ns.take (k + 1 + j + 1)) ++ ns.drop kk)) from by
            obtain ⟨_, _, _, hl, _⟩ := own_cur hown.out
            have := hown.out.1
            rw [hl] at this
            exact Lies.of_own32 this)
          rw [hR]
          by_cases hmore : j + 1 < R
          · have e1 := gt_some ns (k + 1 + j) (by rw [HLn.out]; omega)
            have e2 := gt_some ns (k + 1 + j + 1) (by rw [HLn.out]; omega)
            have hm1 := HB.out _ (gt_mem ns (k + 1 + j) (by rw [HLn.out]; omega))
            have hm2 := HB.out _ (gt_mem ns (k + 1 + j + 1) (by rw [HLn.out]; omega))
            rw [← mix_get _ ns kk _ hCl.out (by omega)] at e1
            rw [← mix_get _ ns kk _ hCl.out (by omega)] at e2
            have HE2 := Lib.hid e2
            obtain ⟨cd, hcd⟩ : ∃ c, idC (dgt (gt ns (k + 1 + j))) = c := ⟨_, rfl⟩
            obtain ⟨ce, hce⟩ : ∃ c, idC (dgt (gt ns (k + 1 + j + 1))) = c := ⟨_, rfl⟩
            have l1 : ∀ q : Later wi, (loadCellsFrom ⟨g, (k + 1) * 32 + j * 32, none⟩ 0 n32 #[]).run Try.prog q.w' = .ok cd q.w' := fun q => load_off (k := k) cd hcd HLw.out (by omega) e1 q.fr n32 HN32.out
            have l2 : ∀ q : Later wi, (loadCellsFrom ⟨g, (k + 1) * 32 + (j + 1) * 32, none⟩ 0 n32 #[]).run Try.prog q.w' = .ok ce q.w' := fun q => load_off (k := k) ce hce HLw.out (by omega) e2 q.fr n32 HN32.out
            have heq := fun w => eq_nums (gt ns (k + 1 + j + 1)) (gt ns (k + 1 + j)) hm2 hm1 w
            obtain ⟨s2, hs2⟩ : ∃ s, (gt ns (k + 1 + j + 1) == gt ns (k + 1 + j)) = s := ⟨_, rfl⟩
            rw [hcd, hce, hs2] at heq
            have HS2 := Lib.hid hs2
            have HCE := Lib.hid hce
            have hlastC : Hid ((ddL (ns.take (k + 1 + j + 1))).getLast? = some (gt ns (k + 1 + j))) := Lib.hid (by
              rw [(dd_props _ (sle_take ns _ HS.out)).2.2.1, take_last ns (k + 1 + j) (by rw [HLn.out]; omega)])
            have hsn : Hid (ddL (ns.take (k + 1 + (j + 1) + 1)) = ddS (ddL (ns.take (k + 1 + j + 1))) (gt ns (k + 1 + j + 1))) := Lib.hid (by
              rw [show k + 1 + (j + 1) + 1 = k + 1 + j + 1 + 1 by omega, take_snoc ns (k + 1 + j + 1) (by rw [HLn.out]; omega), dd_snoc])
            have hmi : (j : Int) + 1 < R := by omega
            have hmi0 : (j : Int) < R := by omega
            clear e1 e2 hm1 hm2 hcd hce hs2
            cases s2
            · obtain ⟨cur, hW, hcs, hl, hnc, hcm, hbase, htk⟩ := own_cur hown.out
              have hkn : kk < n := by omega
              have HCN : Hid (ddL (ns.take (k + 1 + (j + 1) + 1)) = ddL (ns.take (k + 1 + j + 1)) ++ [gt ns (k + 1 + j + 1)]) := Lib.hid (by
                rw [hsn.out, ddS, if_neg (fun e => by
                  rw [hlastC.out] at e
                  injection e with e
                  have := HS2.out
                  rw [e] at this
                  simp at this)])
              have HW := Lib.hid hW
              have hkn0 : (kk : Int) < n := by omega
              have hfit : kk * 32 + 32 ≤ cur.size := by
                rw [hcs]
                have := Nat.mul_le_mul_right 32 (show kk + 1 ≤ c by omega)
                omega
              have HFIT := Lib.hid hfit
              clear hW hcs hl hnc hcm hbase htk hfit
              go_wp2_with fail
              refine wp_region_later (w0 := wi) (Fr.refl _ _) (by kernel_rfl) (by kernel_rfl) ?_
              repeat (quiet_step (fail))
              refine wpQuiet_nil ?_
              intro _ hw'
              obtain ⟨q, hw''⟩ := hw'
              subst hw''
              have HWq := Lib.hid (HW.out.fr q.fr (fun e => e))
              have HOW := Lib.hid (hown.out.fr q.fr)
              clear l1 l2 heq
              go_wp2_with (first
                | (refine wpList_load_cx rfl (.tmp 49) rfl g ((k + 1) * 32 + (j + 1) * 32) rfl ce (by rw [← HCE.out, idC_size]) (range_off ce HCE.out HLw.out (by omega) HE2.out q.fr) ?_)
                | (refine wpList_store_at rfl 23 _ _ rfl g (kk * 32) 23 _ ce rfl rfl HWq.out (by rw [← HCE.out, idC_size]; exact HFIT.out) (by rw [← HCE.out, idC_size]; exact size32) (by rw [← HCE.out]; exact idC_one _) ?_
                   intro w6 hw6 hf6
                   have HN6 := Lib.hid (own_store HOW.out kk _ hkn _ HWq.out ce HCE.out hw6 hf6)
                   clear hw6 hf6))
              have HN7 : Hid (OwnI w0 w6 (.slice (some ⟨g, 0, none⟩) n c) (ddL (ns.take (k + 1 + (j + 1) + 1)) ++ ns.drop (kk + 1))) := Lib.hid (by
                rw [HCN.out, ← mix_set _ ns kk _ hCl.out (by rw [HLn.out]; exact hkn)]
                exact HN6.out)
              have HC7 : Hid ((ddL (ns.take (k + 1 + (j + 1) + 1))).length = kk + 1) := Lib.hid (by rw [HCN.out, List.length_append, hCl.out]; rfl)
              go_roundw
              case rel => exact ⟨kk + 1, j + 1, by go_num, by go_num, by omega, by omega, HC7.out, HN7.out⟩
              case measure => simp [intOf]; omega
            · have HCN : Hid (ddL (ns.take (k + 1 + (j + 1) + 1)) = ddL (ns.take (k + 1 + j + 1))) := Lib.hid (by
                rw [hsn.out, ddS, if_pos (by rw [hlastC.out, eq_of_beq HS2.out])])
              go_wp2_with fail
              refine wp_region_later (w0 := wi) (Fr.refl _ _) (by kernel_rfl) (by kernel_rfl) ?_
              repeat (quiet_step (fail))
              refine wpQuiet_nil ?_
              intro _ hw'
              obtain ⟨q, hw''⟩ := hw'
              subst hw''
              have HN7 : Hid (OwnI w0 q.w' (.slice (some ⟨g, 0, none⟩) n c) (ddL (ns.take (k + 1 + (j + 1) + 1)) ++ ns.drop kk)) := Lib.hid (by rw [HCN.out]; exact hown.out.fr q.fr)
              have HC7 : Hid ((ddL (ns.take (k + 1 + (j + 1) + 1))).length = kk) := Lib.hid (by rw [HCN.out]; exact hCl.out)
              go_wp2_with fail
              go_roundw
              case rel => exact ⟨kk, j + 1, rfl, by go_num, by omega, by omega, HC7.out, HN7.out⟩
              case measure => simp [intOf]; omega
          · have hend : k + 1 + j + 1 = n := by omega
            obtain ⟨cur, hW, hcs, hl, hnc, hcm, hbase, htk⟩ := own_cur hown.out
            have HALL : Hid (ddL (ns.take (k + 1 + j + 1)) = ddL ns) := Lib.hid (by rw [hend, List.take_of_length_le (by rw [HLn.out]; exact Nat.le_refl _)])
            have hmi : ¬ ((j : Int) + 1 < R) := by omega
            have hkc : ¬ c = kk := by omega
            have hkn : kk ≤ n := by omega
            have hkn0 : (kk : Int) ≤ n := by omega
            have hkc0 : (kk : Int) ≤ c := by omega
            have HW := Lib.hid hW
            have HFIT := Lib.hid (show kk * 32 + (n - kk) * 32 ≤ cur.size from by
              rw [hcs]
              have := Nat.mul_le_mul_right 32 hnc
              omega)
            have HPOS := Lib.hid (show 0 < n - kk from by omega)
            clear hW hcs hl hcm hbase htk hmore
            go_wp2_with (refine wpList_clear rfl (.tmp 56) rfl g (kk * 32) (n - kk) (c - kk) rfl cur HW.out HPOS.out HFIT.out ?_
                         intro w6 cur6 hw6 hf6 hs6 ht6)
            have HRES := Lib.hid (own_cut hown.out kk hkn (C := ddL ns) (by rw [← HALL.out, List.take_append_of_le_length (by rw [hCl.out]; exact Nat.le_refl _), List.take_of_length_le (by rw [hCl.out]; exact Nat.le_refl _)]) cur cur6 HW.out hw6 hf6 hs6 ht6)
            clear hw6 hf6 hs6 ht6
            go_ret
            exact ⟨_, rfl, HRES.out⟩
    · have hend : k + 1 = n := by omega
      have HALL : Hid (ddL ns = ns) := Lib.hid (by
        have := hdd.out
        rwa [hend, List.take_of_length_le (by rw [HLn.out]; exact Nat.le_refl _)] at this)
      have hk1 : ¬ ((k : Int) + 1 < n) := by omega
      have HRES := Lib.hid (HO.out.fr hf)
      clear hf
      go_wp2_with fail
      go_ret
      exact ⟨_, rfl, by rw [HALL.out]; exact HRES.out⟩
end Go.Proofs.Ytbfbgopbelmghaa

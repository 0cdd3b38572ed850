/- What is proved: whether a commit may be, by the document. Conditions: the parents' cells are there, nothing is too long for any machine. -/
import Derived.Test.YtppddpbacpeadaaDoorRvh
namespace Go.Proofs.YtppddpbacpeadaaDoor
open Go.RowKit Go.Sort Go.Shelf
open Ids (idC dgt big idC_size idC_get idC_one cellD zero32 size32 dgt_lt eq_nums)
set_option linter.unusedVariables false

theorem take_has (l : List Nat) (k j : Nat) (hj : j < k) (hk : k ≤ l.length) (h : gt l j = gt l k) : (l.take k).contains (gt l k) = true := by
  rw [List.contains_iff_mem, ← h]
  rw [gt, List.getD_eq_getElem?_getD, List.getElem?_eq_getElem (by omega)]
  simp only [Option.getD_some]
  rw [List.mem_take_iff_getElem]
  exact ⟨j, by omega, rfl⟩
theorem take_hasnt (l : List Nat) (k : Nat) (hk : k < l.length) (h : ∀ j, j < k → gt l j ≠ gt l k) : (l.take k).contains (gt l k) = false := by
  rw [← Bool.not_eq_true, List.contains_iff_mem, List.mem_take_iff_getElem]
  rintro ⟨j, hj, e⟩
  refine h j (by omega) ?_
  rw [← e]
  rw [gt, List.getD_eq_getElem?_getD, List.getElem?_eq_getElem (by omega)]
  rfl
theorem timeB_cases (n : Int) : (timeB n = true ∧ ¬ n < 0 ∧ ¬ 1099511627776 < n) ∨ (timeB n = false ∧ n < 0) ∨ (timeB n = false ∧ ¬ n < 0 ∧ 1099511627776 < n) := by
  unfold timeB
  by_cases h : n < 0
  · right; left
    rw [decide_eq_false (by omega : ¬ 0 ≤ n)]
    exact ⟨rfl, h⟩
  · by_cases h2 : 1099511627776 < n
    · right; right
      rw [decide_eq_false (by omega : ¬ n ≤ 1099511627776), Bool.and_false]
      exact ⟨rfl, h, h2⟩
    · left
      rw [decide_eq_true (by omega : 0 ≤ n), decide_eq_true (by omega : n ≤ 1099511627776)]
      exact ⟨rfl, h, h2⟩
set_option maxHeartbeats 3200000 in
set_option maxRecDepth 100000 in
theorem QvCheck_any (T : Nat) (A : Option Addr) (c : Nat) (ps : List Nat) (a : List UInt8) (n : Int) (t : List UInt8) (hb : ∀ n ∈ ps, n < big) (ha : a.length ≤ 9223372036854775806) (ht : t.length ≤ 9223372036854775806) (w : World) (h1 : Lies w A (flatI ps)) :
    Calls Tryd.prog 14 #[.agg (revC T (.slice A ps.length c) a n t)] w fun e w' => e = .returned (.int .i64 (chkE ps a n t)) ∧ Below w.heap.size w w' := by
  obtain ⟨w1, hw1⟩ : ∃ w1, w.alloc (.cells (revC T (.slice A ps.length c) a n t) 26) = w1 := ⟨_, rfl⟩
  have hF : Fr (fun _ => False) w w1 := by subst hw1; exact (Fr.refl _ w).alloc _
  have hS : RevAt w1 w.heap.size T (.slice A ps.length c) a n t := by subst hw1; exact RevAt.new w
  have HF := Lib.hid hF
  have HL1 := Lib.hid (h1.fr hF (fun _ _ e => e))
  have HB := Lib.hid hb
  have hv := hS.cv
  have hct := hS.ct
  have hts := strB_size t
  have HN := Lib.hid (fun w => QrName_any a ha w)
  have HCE : Hid (chkE ps a n t = if 6 < ps.length ∨ 400 < t.length then 3 else if twN ps = true then 17 else if nameB a = false then 15 else if timeB n = false then 2 else 0) := Lib.hid rfl
  have HCV : Hid (∀ w', Fr (fun _ => False) w1 w' → w'.cell? ⟨w.heap.size, 32, none⟩ = some (.slice A ps.length c)) := Lib.hid (fun w' f => (hS.fr f).cv)
  have HCA : Hid (∀ w', Fr (fun _ => False) w1 w' → w'.cell? ⟨w.heap.size, 33, none⟩ = some (.string (strB a))) := Lib.hid (fun w' f => (hS.fr f).ca)
  have HCN : Hid (∀ w', Fr (fun _ => False) w1 w' → w'.cell? ⟨w.heap.size, 34, none⟩ = some (.int .i64 n)) := Lib.hid (fun w' f => (hS.fr f).cn)
  obtain ⟨E, hE⟩ : ∃ E, chkE ps a n t = E := ⟨_, rfl⟩
  rw [hE] at HCE ⊢
  obtain ⟨cs, hcs⟩ : ∃ cs, revC T (.slice A ps.length c) a n t = cs := ⟨_, rfl⟩
  rw [hcs] at hw1 ⊢
  obtain ⟨L, hL⟩ : ∃ L, ps.length = L := ⟨_, rfl⟩
  have HLn := Lib.hid hL
  obtain ⟨M, hM⟩ : ∃ L, t.length = L := ⟨_, rfl⟩
  obtain ⟨b3, hb3⟩ : ∃ b, nameB a = b := ⟨_, rfl⟩
  rw [hb3] at HN HCE
  rw [hL] at hv HCE HCV
  rw [hM] at HCE hts
  rw [hM] at ht
  have HAT := Lib.hid (fun k hk h => twN_at ps k hk h)
  have HNO := Lib.hid (twN_none ps)
  rw [hL] at HAT HNO
  have HTI := Lib.hid (timeB_cases n)
  obtain ⟨b4, hb4⟩ : ∃ b, timeB n = b := ⟨_, rfl⟩
  rw [hb4] at HTI HCE
  obtain ⟨b2, hb2⟩ : ∃ b, twN ps = b := ⟨_, rfl⟩
  rw [hb2] at HCE HAT HNO
  obtain ⟨Sa, hSa⟩ : ∃ S, strB a = S := ⟨_, rfl⟩
  obtain ⟨St, hSt⟩ : ∃ S, strB t = S := ⟨_, rfl⟩
  rw [hSa] at HN HCA
  rw [hSt] at hct hts
  clear hE hcs hb3 hSa hSt hS hF h1 hb ha hL hM hb2 hb4
  by_cases h6 : 6 < L
  · have hz6 : (6 : Int) < L := by omega
    have HE : Hid (E = 3) := Lib.hid (by rw [HCE.out, if_pos (.inl h6)])
    clear HCE HN HTI HCA HCN HCV
    go_enter Tryd.func14, Tryd.ntmps14
    go_wp2_with fail
    go_ret
    exact ⟨ret_num HE.out.symm, HF.out.below (fun _ _ e => e)⟩
  · have hz6 : ¬ (6 : Int) < L := by omega
    by_cases h4 : 400 < M
    · have hz4 : (400 : Int) < M := by omega
      have HE : Hid (E = 3) := Lib.hid (by rw [HCE.out, if_pos (.inr h4)])
      clear HCE HN HTI HCA HCN HCV
      go_enter Tryd.func14, Tryd.ntmps14
      go_wp2_with fail
      go_ret
      exact ⟨ret_num HE.out.symm, HF.out.below (fun _ _ e => e)⟩
    · have hz4 : ¬ (400 : Int) < M := by omega
      have hn : ¬ (6 < L ∨ 400 < M) := by omega
      have HCE2 := Lib.hid (HCE.out.trans (if_neg hn))
      clear HCE
      obtain ⟨T32, hT32⟩ : ∃ T : TypeId, T = 23 := ⟨_, rfl⟩
      obtain ⟨n32, hn32⟩ : ∃ n : Nat, n = 32 := ⟨_, rfl⟩
      have ag32 : ∀ w, (isAgg T32).run Tryd.prog w = .ok true w := by rw [hT32]; exact fun _ => by kernel_rfl
      have sz32 : ∀ w, (sizeOf T32).run Tryd.prog w = .ok n32 w := by rw [hT32, hn32]; exact fun _ => by kernel_rfl
      have HN32 := Lib.hid hn32
      have hl6 : L ≤ 6 := by omega
      clear hn hn32
      go_enter Tryd.func14, Tryd.ntmps14
      rw [show Op.load 23 (.tmp 30) = Op.load T32 (.tmp 30) by rw [hT32], show Op.load 23 (.tmp 35) = Op.load T32 (.tmp 35) by rw [hT32]]
      clear hT32
      go_wp2_with fail
      clear hv hct hts
      go_loopw [3] (fun i wr => ∃ k : Nat, k ≤ L ∧ i = .int .i64 k ∧ Hid (∀ j, j < k → (ps.take j).contains (gt ps j) = false) ∧ Fr (fun _ => False) w1 wr) (fun i _ => L - (intOf i).toNat)
      case atStart => exact ⟨0, by omega, rfl, Lib.hid (fun j hj => by omega), Fr.refl _ _⟩
      case round =>
        obtain ⟨k, hk, rfl, HJ, hf⟩ := hrel
        obtain ⟨wo, rfl⟩ : ∃ wo, wo = wr := ⟨wr, rfl⟩
        have HFr := Lib.hid hf
        have hv := HCV.out _ hf
        have wk1 := wrap_k1 k (by omega)
        by_cases hlt : k < L
        · have hk0 : (k : Int) < L := by omega
          obtain ⟨b, o, hA⟩ := HL1.out.some_of (by rw [HLn.out]; omega)
          subst hA
          clear hf
          go_wp2_with fail
          go_loopw [4] (fun i wr => ∃ j : Nat, j ≤ k ∧ i = .int .i64 j ∧ Hid (∀ i, i < j → gt ps i ≠ gt ps k) ∧ Fr (fun _ => False) wo wr) (fun i _ => k - (intOf i).toNat)
          case atStart => exact ⟨0, by omega, rfl, Lib.hid (fun j hj => by omega), Fr.refl _ _⟩
          case round =>
            obtain ⟨j, hj, rfl, HI, hf⟩ := hrel
            have HFi := Lib.hid hf
            have HFw := Lib.hid (HFr.out.trans hf (fun _ _ e => e))
            have hv2 := HCV.out _ HFw.out
            have wj1 := wrap_k1 j (by omega)
            by_cases hlj : j < k
            · have hj0 : (j : Int) < k := by omega
              have hjL : (j : Int) < L := by omega
              have hka := gt_some ps k (by rw [HLn.out]; exact hlt)
              have hja := gt_some ps j (by rw [HLn.out]; omega)
              have hma := HB.out _ (gt_mem ps k (by rw [HLn.out]; exact hlt))
              have hmj := HB.out _ (gt_mem ps j (by rw [HLn.out]; omega))
              have l1 : ∀ q : Later wr, (loadCellsFrom ⟨b, o + j * 32, none⟩ 0 n32 #[]).run Tryd.prog q.w' = .ok (idC (dgt (gt ps j))) q.w' := fun q => by rw [HN32.out]; exact load_at HL1.out hja (HFw.out.trans q.fr (fun _ _ e => e))
              have l2 : ∀ q : Later wr, (loadCellsFrom ⟨b, o + k * 32, none⟩ 0 n32 #[]).run Tryd.prog q.w' = .ok (idC (dgt (gt ps k))) q.w' := fun q => by rw [HN32.out]; exact load_at HL1.out hka (HFw.out.trans q.fr (fun _ _ e => e))
              have l3 : ∀ q : Later wr, q.w'.cell? ⟨w.heap.size, 32, none⟩ = some (.slice (some ⟨b, o, none⟩) L c) := fun q => HCV.out _ (HFw.out.trans q.fr (fun _ _ e => e))
              have heq := fun w => eq_nums (gt ps j) (gt ps k) hmj hma w
              obtain ⟨s, hs⟩ : ∃ s, (gt ps j == gt ps k) = s := ⟨_, rfl⟩
              rw [hs] at heq
              have HSs := Lib.hid hs
              obtain ⟨c1, hc1⟩ : ∃ c, idC (dgt (gt ps j)) = c := ⟨_, rfl⟩
              obtain ⟨c2, hc2⟩ : ∃ c, idC (dgt (gt ps k)) = c := ⟨_, rfl⟩
              rw [hc1] at l1 heq
              rw [hc2] at l2 heq
              clear hka hja hma hmj hs hc1 hc2 hf
              cases s
              · go_wp2_with fail
                refine wp_region_later (w0 := wr) (Fr.refl _ _) (by kernel_rfl) (by kernel_rfl) ?_
                repeat (quiet_step (fail))
                refine wpQuiet_nil ?_
                intro _ hw'
                obtain ⟨q, hw''⟩ := hw'
                subst hw''
                go_wp2_with fail
                go_roundw
                case rel => exact ⟨j + 1, by omega, by go_num, Lib.hid (fun i hi => by
                  rcases Nat.lt_or_ge i j with h | h
                  · exact HI.out i h
                  · obtain rfl : i = j := by omega
                    exact fun e => by have := HSs.out; rw [e] at this; simp at this), HFi.out.trans q.fr (fun _ _ e => e)⟩
                case measure => simp [intOf]; omega
              · have HE : Hid (E = 17) := Lib.hid (HCE2.out.trans (if_pos (HAT.out k hlt (take_has ps k j hlj (by rw [HLn.out]; omega) (eq_of_beq HSs.out)))))
                go_wp2_with fail
                refine wp_region_later (w0 := wr) (Fr.refl _ _) (by kernel_rfl) (by kernel_rfl) ?_
                repeat (quiet_step (fail))
                refine wpQuiet_nil ?_
                intro _ hw'
                obtain ⟨q, hw''⟩ := hw'
                subst hw''
                go_wp2_with fail
                go_ret
                exact ⟨ret_num HE.out.symm, ((HF.out.trans HFw.out (fun _ _ e => e)).trans q.fr (fun _ _ e => e)).below (fun _ _ e => e)⟩
            · obtain rfl : j = k := by omega
              clear hf
              go_wp2_with fail
              go_roundw
              case rel => exact ⟨j + 1, by omega, by go_num, Lib.hid (fun i hi => by
                rcases Nat.lt_or_ge i j with h | h
                · exact HJ.out i h
                · obtain rfl : i = j := by omega
                  exact take_hasnt ps i (by rw [HLn.out]; omega) HI.out), HFw.out⟩
              case measure => simp [intOf]; omega
        · obtain rfl : k = L := by omega
          have HB2 : Hid (b2 = false) := Lib.hid (HNO.out HJ.out)
          have HCE3 := Lib.hid (HCE2.out.trans (if_neg (by rw [HB2.out]; decide)))
          have hca := HCA.out _ hf
          have HCN2 : Hid (∀ w', Below wo.heap.size wo w' → w'.cell? ⟨w.heap.size, 34, none⟩ = some (.int .i64 n)) := Lib.hid (fun w' b => HCN.out _ (HFr.out.then_below b))
          clear hf
          cases b3
          · have HE := Lib.hid (HCE3.out.trans (if_pos rfl))
            go_wp2_with (go_at_call 36; refine (HN.out _).mono ?_; rintro e w2 ⟨rfl, bb⟩)
            go_ret
            exact ⟨ret_num HE.out.symm, ((HF.out.trans HFr.out (fun _ _ e => e)).then_below bb).below (fun _ _ e => e)⟩
          · have HCE4 := Lib.hid (HCE3.out.trans (if_neg (by decide)))
            rcases HTI.out with ⟨h1, h2, h3⟩ | ⟨h1, h2⟩ | ⟨h1, h2, h3⟩
            · have HE := Lib.hid (HCE4.out.trans (if_neg (by rw [h1]; decide)))
              clear h1
              go_wp2_with (go_at_call 36; refine (HN.out _).mono ?_; rintro e w2 ⟨rfl, bb⟩; have hcn := HCN2.out _ bb)
              go_ret
              exact ⟨ret_num HE.out.symm, ((HF.out.trans HFr.out (fun _ _ e => e)).then_below bb).below (fun _ _ e => e)⟩
            · have HE := Lib.hid (HCE4.out.trans (if_pos h1))
              clear h1
              go_wp2_with (go_at_call 36; refine (HN.out _).mono ?_; rintro e w2 ⟨rfl, bb⟩; have hcn := HCN2.out _ bb)
              go_ret
              exact ⟨ret_num HE.out.symm, ((HF.out.trans HFr.out (fun _ _ e => e)).then_below bb).below (fun _ _ e => e)⟩
            · have HE := Lib.hid (HCE4.out.trans (if_pos h1))
              clear h1
              go_wp2_with (go_at_call 36; refine (HN.out _).mono ?_; rintro e w2 ⟨rfl, bb⟩; have hcn := HCN2.out _ bb)
              go_ret
              exact ⟨ret_num HE.out.symm, ((HF.out.trans HFr.out (fun _ _ e => e)).then_below bb).below (fun _ _ e => e)⟩
end Go.Proofs.YtppddpbacpeadaaDoor

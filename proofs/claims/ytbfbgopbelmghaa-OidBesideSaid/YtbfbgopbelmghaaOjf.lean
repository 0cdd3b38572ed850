/- What is proved: a list put in order by the document: one after another into its place. Conditions: the list's cells are there. -/
import Derived.Test.YtbfbgopbelmghaaOje
namespace Go.Proofs.Ytbfbgopbelmghaa
open Go.RowKit
set_option linter.unusedVariables false

theorem take_snoc (ns : List Nat) (k : Nat) (h : k < ns.length) : ns.take (k + 1) = ns.take k ++ [gt ns k] := by
  rw [List.take_add_one, gt_some ns k h]; rfl

theorem wpList_build_cx {ops : Array Oper} {rest : List Oper} {o : Oper} {a : Act} {w : World} {Q : Exit → Act → World → Prop} (hgd : o.guard = none) (x : Operand) (ho : o.op = .buildSlice 44 1 #[(0, x)])
    (n : Nat) (cx : Array Value) (hc : idC (dgt n) = cx) (hx : a.eval x = .agg cx) (h : wpList Try.prog ops Q rest (a.put o.dst (.slice (some ⟨w.heap.size, 0, none⟩) 1 1)) (w.alloc (.cells cx 23))) : wpList Try.prog ops Q (o :: rest) a w := by
  subst hc
  exact wpList_build_one hgd x ho (dgt n) hx h
theorem src_cx32 (w : World) (n : Nat) (cx : Array Value) (hc : idC (dgt n) = cx) : Src Try.prog 32 44 (.slice (some ⟨w.heap.size, 0, none⟩) 1 1) 1 (flatI [n]) (w.alloc (.cells cx 23)) := by
  subst hc
  exact src_one32 w n
theorem range_cx {w w' : World} {b o : Nat} {ns : List Nat} {i n : Nat} (cx : Array Value) (hc : idC (dgt n) = cx) (h : Lies w (some ⟨b, o, none⟩) (flatI ns)) (hi : ns[i]? = some n) (f : Fr (fun _ => False) w w') : w'.rangeAt b (o + i * 32) cx.toList := by
  subst hc
  exact range_at h hi f
theorem wpList_load_cx {ops : Array Oper} {rest : List Oper} {op : Oper} {a : Act} {w : World} {Q : Exit → Act → World → Prop} (hgd : op.guard = none) (x : Operand) (ho : op.op = .load 23 x)
    (b o : Nat) (hx : a.eval x = .pointer (some ⟨b, o, none⟩)) (cx : Array Value) (hs : cx.size = 32) (hc : w.rangeAt b o cx.toList)
    (h : wpList Try.prog ops Q rest (a.put op.dst (.agg cx)) w) : wpList Try.prog ops Q (op :: rest) a w :=
  wpList_load_mid hgd 23 x ho b o hx cx.toList _ hc Try.underlying23 rfl (by rw [Array.length_toList, hs]; exact size32) (by rw [Array.toArray_toList]; exact h)
theorem first_facts (w W w4 : World) (v1 : Value) (a : Nat) (xs : List Value) (f : Fr (fun _ => False) w W) (o1 : w4.ownsRow w.heap.size 23 32 v1 (0 + a) ([] ++ xs)) (g1 : W.grownBy w4 (Value.slice none 0 0).ownBlock) (at1 : v1.ownBlock = (Value.slice none 0 0).ownBlock ∨ v1.ownBlock = some W.heap.size) :
    (w4.ownsRow w.heap.size 23 32 v1 a xs ∧ Fr (fun _ => False) w w4) ∧ Fr (fun _ => False) W w4 ∧ (∀ j, v1.ownBlock = some j → W.heap.size ≤ j) := by
  refine ⟨⟨by simpa using o1, fr_append (World.ownsRow_nil W w.heap.size 23 32) f g1⟩, (Fr.refl (fun _ => False) W).grown g1 (fun j hj => by simp [Value.ownBlock] at hj), fun j hj => ?_⟩
  rcases at1 with e | e
  · rw [hj] at e; simp [Value.ownBlock] at e
  · rw [hj] at e; injection e with e; omega
theorem second_facts (w W w4 w5 : World) (v1 v2 : Value) (x a : Nat) (l : List Nat) (A : Option Addr) (c : Nat) (r : List Nat)
    (n1 : (w4.ownsRow w.heap.size 23 32 v1 a (flatI l) ∧ Fr (fun _ => False) w w4) ∧ Fr (fun _ => False) W w4 ∧ (∀ j, v1.ownBlock = some j → W.heap.size ≤ j)) (hl : Lies W (tlA A c a) (flatI r))
    (o2 : w5.ownsRow w.heap.size 23 32 v2 (a + 1) (flatI l ++ flatI [x])) (cx : Array Value) (g2 : (w4.alloc (.cells cx 23)).grownBy w5 v1.ownBlock) :
    (w5.ownsRow w.heap.size 23 32 v2 (a + 1) (flatI (l ++ [x])) ∧ Fr (fun _ => False) w w5) ∧ Lies w5 (tlA A c a) (flatI r) := by
  refine ⟨⟨by rw [flatI_append]; exact o2, fr_append (n1.1.1.alloc _) (n1.1.2.alloc _) g2⟩, hl.fr ((n1.2.1.alloc _).grown g2 (fun j hj hlt => ?_)) (fun _ _ e => e)⟩
  have := n1.2.2 j hj
  omega

set_option maxHeartbeats 6400000 in
theorem QSorted_any (A : Option Addr) (cap : Nat) (ns : List Nat) (hb : ∀ n ∈ ns, n < big) (hn : ns.length ≤ 1000) (w : World) (h : Lies w A (flatI ns)) :
    Calls Try.prog 26 #[.slice A ns.length cap] w fun e w' => ∃ v, e = .returned v ∧ OwnI w w' v (srtN ns) := by
  obtain ⟨i0, hi, hz0, hz1, hz2⟩ := info_parts info_id
  have hz3 := zero32_cells
  obtain ⟨Z32, hZ32⟩ : ∃ Z, zero32 = Z := ⟨_, rfl⟩
  rw [hZ32] at hz0 hz3
  have HL := Lib.hid h
  have HB := Lib.hid hb
  obtain ⟨L, hL⟩ : ∃ L, ns.length = L := ⟨_, rfl⟩
  have HLn := Lib.hid hL
  obtain ⟨T32, hT32⟩ : ∃ T : TypeId, T = 23 := ⟨_, rfl⟩
  obtain ⟨n32, hn32⟩ : ∃ n : Nat, n = 32 := ⟨_, rfl⟩
  have ag32 : ∀ w, (isAgg T32).run Try.prog w = .ok true w := by rw [hT32]; exact fun _ => by kernel_rfl
  have sz32 : ∀ w, (sizeOf T32).run Try.prog w = .ok n32 w := by rw [hT32, hn32]; exact fun _ => by kernel_rfl
  have hgi := guardI
  have HN32 := Lib.hid hn32
  rw [hL] at hn ⊢
  clear h hb hL hn32 hZ32
  go_enter Try.func26, Try.ntmps26
  rw [show Op.load 23 (.tmp 20) = Op.load T32 (.tmp 20) by rw [hT32], show Op.load 23 (.tmp 24) = Op.load T32 (.tmp 24) by rw [hT32], show Op.load 23 (.tmp 37) = Op.load T32 (.tmp 37) by rw [hT32], show Op.load 23 (.tmp 41) = Op.load T32 (.tmp 41) by rw [hT32]]
  clear hT32
  go_wp2
  go_loopw [3, 4] (fun v i wr => ∃ k : Nat, k ≤ L ∧ i = .int .i64 k ∧ OwnI w wr v (srtN (ns.take k))) (fun _ i _ => L - (intOf i).toNat)
  case atStart => exact ⟨0, by omega, rfl, OwnI.nil (Fr.refl _ w)⟩
  case round =>
    obtain ⟨k, hk, rfl, ho⟩ := hrel
    obtain ⟨wo, rfl⟩ : ∃ wo, wo = wr := ⟨wr, rfl⟩
    by_cases hlt : k < L
    · obtain ⟨out, hout⟩ : ∃ out, srtN (ns.take k) = out := ⟨_, rfl⟩
      have hnext : srtN (ns.take (k + 1)) = insN out (gt ns k) := by rw [take_snoc ns k (by rw [HLn.out]; exact hlt), srt_snoc, hout]
      have hpr := srt_props (ns.take k)
      rw [hout] at ho hpr
      have hx := HB.out _ (gt_mem ns k (by rw [HLn.out]; exact hlt))
      have hob : ∀ n ∈ out, n < big := fun n hn => HB.out n (List.mem_of_mem_take ((hpr.2.2 n).1 hn))
      have hol : out.length ≤ 1000 := by have := hpr.2.1; rw [List.length_take] at this; omega
      have hgk := gt_some ns k (by rw [HLn.out]; exact hlt)
      obtain ⟨x, hxe⟩ : ∃ x, gt ns k = x := ⟨_, rfl⟩
      rw [hxe] at hnext hx hgk
      obtain ⟨Ao, co, rfl, hoc, hom, hoA, holies⟩ := ho.slice
      obtain ⟨b, o, hA⟩ := HL.out.some_of (by rw [HLn.out]; omega)
      subst hA
      obtain ⟨m, hm⟩ : ∃ m, out.length = m := ⟨_, rfl⟩
      have HMl := Lib.hid hm
      have HO := Lib.hid ho
      have HOL := Lib.hid holies
      have HNX := Lib.hid hnext
      have HX := Lib.hid hx
      have HOB := Lib.hid hob
      have HGK := Lib.hid hgk
      have hO1 := ho.1
      rw [hm] at hol hoc hO1 ⊢
      have HO1 := Lib.hid hO1
      have hs1 := fun (a : Nat) (ha : a ≤ m) w => slice_hd Ao hoA m co a (by omega) w
      have HS1 := Lib.hid hs1
      have HS2 := Lib.hid (fun (a : Nat) (ha : a ≤ m) w => slice_tl Ao m co a ha w)
      have hk0 : (k : Int) < L := by omega
      have wk := wrap_nat k (by omega)
      have wk1 := wrap_nat1 k (by omega)
      clear hnext hpr hx hob hgk hxe ho holies hm hO1 hout hs1 hoA
      go_wp2_with fail
      go_loopw [5] (fun i wr => ∃ a : Nat, a ≤ m ∧ i = .int .i64 a ∧ Hid (∀ j, j < a → gt out j < x) ∧ Fr (fun _ => False) wo wr) (fun i _ => m - (intOf i).toNat)
      case atStart => exact ⟨0, by omega, rfl, Lib.hid (fun j hj => by omega), Fr.refl _ _⟩
      case round =>
        obtain ⟨a, ha, rfl, hz, hf⟩ := hrel
        have HFr := Lib.hid hf
        have HFa := Lib.hid (HO.out.2.trans hf (fun _ _ e => e))
        by_cases hlt2 : a < m
        · obtain ⟨bo, oo, hAo⟩ := HOL.out.some_of (by rw [HMl.out]; omega)
          subst hAo
          have hga := gt_some out a (by rw [HMl.out]; omega)
          have hma := HOB.out _ (gt_mem out a (by rw [HMl.out]; omega))
          have l1 : ∀ q : Later wr, (loadCellsFrom ⟨bo, oo + a * 32, none⟩ 0 n32 #[]).run Try.prog q.w' = .ok (idC (dgt (gt out a))) q.w' := fun q => by rw [HN32.out]; exact load_at HOL.out hga (HFr.out.trans q.fr (fun _ _ e => e))
          have l2 : ∀ q : Later wr, (loadCellsFrom ⟨b, o + k * 32, none⟩ 0 n32 #[]).run Try.prog q.w' = .ok (idC (dgt x)) q.w' := fun q => by rw [HN32.out]; exact load_at HL.out HGK.out (HFa.out.trans q.fr (fun _ _ e => e))
          have cc := fun w => QBelow_any (gt out a) x hma HX.out w
          have heq := fun w => eq_nums (gt out a) x hma HX.out w
          obtain ⟨r, hr⟩ : ∃ r, decide (gt out a < x) = r := ⟨_, rfl⟩
          obtain ⟨s, hs⟩ : ∃ s, (gt out a == x) = s := ⟨_, rfl⟩
          obtain ⟨ca, hca⟩ : ∃ c, idC (dgt (gt out a)) = c := ⟨_, rfl⟩
          obtain ⟨cx, hcx⟩ : ∃ c, idC (dgt x) = c := ⟨_, rfl⟩
          rw [hca] at l1
          rw [hcx] at l2
          rw [hca, hcx, hr] at cc
          rw [hca, hcx, hs] at heq
          have HCX := Lib.hid hcx
          have HRr := Lib.hid hr
          have HSs := Lib.hid hs
          have CC := Lib.hid cc
          have ha0 : (a : Int) < m := by omega
          have hd0 : decide ((a : Int) < m) = true := decide_eq_true ha0
          have wa := wrap_nat a (by omega)
          have wa1 := wrap_nat1 a (by omega)
          clear hga hma cc hca hcx hr hs hf
          cases r
          · have HNB := Lib.hid (of_decide_eq_false HRr.out)
            have HPO := Lib.hid (pos_unique out x a (by rw [HMl.out]; omega) hz.out (fun _ => by have := HNB.out; omega))
            go_wp2_with fail
            refine wp_region_later (w0 := wr) (Fr.refl _ _) (by kernel_rfl) (by kernel_rfl) ?_
            repeat (quiet_step ((go_at_call 38; refine Calls.later_of (CC.out _))))
            refine wpQuiet_nil ?_
            intro _ hw'
            obtain ⟨q, hw''⟩ := hw'
            subst hw''
            have l3 : ∀ p : Later q.w', (loadCellsFrom ⟨bo, oo + a * 32, none⟩ 0 n32 #[]).run Try.prog p.w' = .ok ca p.w' := fun p => l1 ⟨_, q.fr.trans p.fr (fun _ _ e => e)⟩
            have l4 : ∀ p : Later q.w', (loadCellsFrom ⟨b, o + k * 32, none⟩ 0 n32 #[]).run Try.prog p.w' = .ok cx p.w' := fun p => l2 ⟨_, q.fr.trans p.fr (fun _ _ e => e)⟩
            clear l1 l2
            cases s
            · go_wp2_with fail
              refine wp_region_later (w0 := q.w') (Fr.refl _ _) (by kernel_rfl) (by kernel_rfl) ?_
              repeat (quiet_step (fail))
              refine wpQuiet_nil ?_
              intro _ hw'
              obtain ⟨p, hw''⟩ := hw'
              subst hw''
              have HIN : Hid (srtN (ns.take (k + 1)) = out.take a ++ [x] ++ out.drop a) := Lib.hid (by
                rw [HNX.out, insN, if_neg (fun hh => by
                  have := (of_decide_eq_true hh).2
                  rw [HPO.out] at this
                  have h2 := HSs.out
                  rw [this] at h2
                  simp at h2), HPO.out]
                simp)
              have FW := HO.out.2.trans ((HFr.out.trans q.fr (fun _ _ e => e)).trans p.fr (fun _ _ e => e)) (fun _ _ e => e)
              have HFW := Lib.hid FW
              have HT1 := Lib.hid (show Lies p.w' (some ⟨bo, oo, none⟩) (flatI (out.take a)) from by rw [flatI_take]; exact (HOL.out.fr ((HFr.out.trans q.fr (fun _ _ e => e)).trans p.fr (fun _ _ e => e)) (fun _ _ e => e)).take _)
              have hlt1 : (out.take a).length = a := by rw [List.length_take, HMl.out]; omega
              have hld1 : (out.drop a).length = m - a := by rw [List.length_drop, HMl.out]
              have HLT1 := Lib.hid hlt1
              have HLD1 := Lib.hid hld1
              have HTL := Lib.hid (show Lies p.w' (tlA (some ⟨bo, oo, none⟩) co a) (flatI (out.drop a)) from (HOL.out.fr ((HFr.out.trans q.fr (fun _ _ e => e)).trans p.fr (fun _ _ e => e)) (fun _ _ e => e)).tl co a (by rw [HMl.out]; omega))
              have hs2 := HS2.out a (by omega)
              clear FW hlt1 hld1
              go_wp2_with (first
                | (have _ := M2
                   at_builtin; refine wpList_append_row _ rfl (.tmp 57) (.tmp 60) 44 44 rfl w.heap.size 23 i0 (.agg Z32) 32 32 Try.underlying44 hi hz0 hz1 hz2 hz3 _ (a + 1) _ rfl N2.out.1.1 _ (m - a) (flatI (out.drop a)) rfl (Lies.src32 N2.out.2 HLD1.out (co - a)) (by unfold maxLen; omega) (by omega) N2.out.1.2.size ?_
                   intro v3 w6 o3 g3 at3)
                | (refine wpList_build_cx rfl (.tmp 54) rfl x cx HCX.out rfl ?_)
                | (have _ := M1
                   at_builtin; refine wpList_append_row _ rfl (.tmp 50) (.tmp 55) 44 44 rfl w.heap.size 23 i0 (.agg Z32) 32 32 Try.underlying44 hi hz0 hz1 hz2 hz3 _ a _ rfl (N1.out.1.1.alloc _) _ 1 (flatI [x]) rfl (src_cx32 _ x cx HCX.out) (by unfold maxLen; omega) (by omega) (by have := N1.out.1.2.size; simp; omega) ?_
                   intro v2 w5 o2 g2 at2
                   have M2 := True.intro
                   have N2 := Lib.hid (second_facts w (p.w') w4 w5 v1 v2 x a (out.take a) (some ⟨bo, oo, none⟩) co (out.drop a) N1.out HTL.out o2 cx g2)
                   clear o2 g2 at2)
                | (refine wpList_load_cx rfl (.tmp 53) rfl b (o + k * 32) rfl cx (by rw [← HCX.out, idC_size]) (range_cx cx HCX.out HL.out HGK.out N1.out.1.2) ?_)
                | (at_builtin; refine wpList_append_row _ rfl (.tmp 45) (.tmp 48) 44 44 rfl w.heap.size 23 i0 (.agg Z32) 32 32 Try.underlying44 hi hz0 hz1 hz2 hz3 (.slice none 0 0) 0 [] rfl (World.ownsRow_nil _ _ _ _) (.slice ((some ⟨bo, oo, none⟩)) a co) a (flatI (out.take a)) rfl (Lies.src32 HT1.out HLT1.out co) (by unfold maxLen; omega) (by omega) HFW.out.size ?_
                   intro v1 w4 o1 g1 at1
                   have M1 := True.intro
                   have N1 := Lib.hid (first_facts w (p.w') w4 v1 a (flatI (out.take a)) HFW.out o1 g1 at1)
                   clear o1 g1 at1))
              have n3 : OwnI w w6 v3 (srtN (ns.take (k + 1))) := by
                rw [HIN.out]
                refine ⟨?_, fr_append N2.out.1.1 N2.out.1.2 g3⟩
                rw [flatI_append, List.length_append, List.length_append, HLT1.out, HLD1.out]
                exact o3
              have N3 := Lib.hid n3
              clear n3 o3 g3 at3
              go_roundw
              case rel => exact ⟨k + 1, by omega, by go_num, N3.out⟩
              case measure => simp [intOf]; omega
            · have HIN : Hid (srtN (ns.take (k + 1)) = out) := Lib.hid (by
                rw [HNX.out, insN, if_pos]
                have := eq_of_beq HSs.out
                exact decide_eq_true ⟨by rw [HPO.out, HMl.out]; omega, by rw [HPO.out]; exact this⟩)
              go_wp2_with fail
              refine wp_region_later (w0 := q.w') (Fr.refl _ _) (by kernel_rfl) (by kernel_rfl) ?_
              repeat (quiet_step (fail))
              refine wpQuiet_nil ?_
              intro _ hw'
              obtain ⟨p, hw''⟩ := hw'
              subst hw''
              have N3 := Lib.hid (show OwnI w p.w' (.slice (some ⟨bo, oo, none⟩) m co) (srtN (ns.take (k + 1))) from by
                rw [HIN.out]
                have := HO.out.fr ((HFr.out.trans q.fr (fun _ _ e => e)).trans p.fr (fun _ _ e => e))
                rwa [HMl.out] at this)
              go_wp2_with fail
              go_roundw
              case rel => exact ⟨k + 1, by omega, by go_num, N3.out⟩
              case measure => simp [intOf]; omega
          · go_wp2_with fail
            refine wp_region_later (w0 := wr) (Fr.refl _ _) (by kernel_rfl) (by kernel_rfl) ?_
            repeat (quiet_step ((go_at_call 38; refine Calls.later_of (CC.out _))))
            refine wpQuiet_nil ?_
            intro _ hw'
            obtain ⟨q, hw''⟩ := hw'
            subst hw''
            go_wp2_with fail
            go_roundw
            case rel => exact ⟨a + 1, by omega, by go_num, Lib.hid (fun j hj => (by omega : j < a ∨ j = a).elim (hz.out j) (fun e => e ▸ of_decide_eq_true HRr.out)), HFr.out.trans q.fr (fun _ _ e => e)⟩
            case measure => simp [intOf]; omega
        · obtain rfl : a = m := by omega
          have HPO := Lib.hid (pos_unique out x a (by rw [HMl.out]; omega) hz.out (fun e => by rw [HMl.out] at e; omega))
          have HIN : Hid (srtN (ns.take (k + 1)) = out.take a ++ [x] ++ out.drop a) := Lib.hid (by
            rw [HNX.out, insN, if_neg (fun hh => by
              have := (of_decide_eq_true hh).1
              rw [HPO.out, HMl.out] at this
              omega), HPO.out]
            simp)
          obtain ⟨cx, hcx⟩ : ∃ c, idC (dgt x) = c := ⟨_, rfl⟩
          have HCX := Lib.hid hcx
          clear hcx
          have wa := wrap_nat a (by omega)
          clear hlt2 hf
          go_wp2_with fail
          go_region
          go_wp2_with fail
          go_region
          have FW := HO.out.2.trans (HFr.out.drew.drew) (fun _ _ e => e)
          have HFW := Lib.hid FW
          have HT1 := Lib.hid (show Lies wr.drew.drew Ao (flatI (out.take a)) from by rw [flatI_take]; exact (HOL.out.fr (HFr.out.drew.drew) (fun _ _ e => e)).take _)
          have hlt1 : (out.take a).length = a := by rw [List.length_take, HMl.out]; omega
          have hld1 : (out.drop a).length = 0 := by rw [List.length_drop, HMl.out]; exact Nat.sub_self a
          have HLT1 := Lib.hid hlt1
          have HLD1 := Lib.hid hld1
          have HTL := Lib.hid (show Lies wr.drew.drew (tlA Ao co a) (flatI (out.drop a)) from (HOL.out.fr (HFr.out.drew.drew) (fun _ _ e => e)).tl co a (by rw [HMl.out]; omega))
          have hs2 := HS2.out a (by omega)
          clear FW hlt1 hld1
          go_wp2_with (first
            | (have _ := M2
               at_builtin; refine wpList_append_row _ rfl (.tmp 57) (.tmp 60) 44 44 rfl w.heap.size 23 i0 (.agg Z32) 32 32 Try.underlying44 hi hz0 hz1 hz2 hz3 _ (a + 1) _ rfl N2.out.1.1 _ (0) (flatI (out.drop a)) rfl (Lies.src32 N2.out.2 HLD1.out (co - a)) (by unfold maxLen; omega) (by omega) N2.out.1.2.size ?_
               intro v3 w6 o3 g3 at3)
            | (refine wpList_build_cx rfl (.tmp 54) rfl x cx HCX.out rfl ?_)
            | (have _ := M1
               at_builtin; refine wpList_append_row _ rfl (.tmp 50) (.tmp 55) 44 44 rfl w.heap.size 23 i0 (.agg Z32) 32 32 Try.underlying44 hi hz0 hz1 hz2 hz3 _ a _ rfl (N1.out.1.1.alloc _) _ 1 (flatI [x]) rfl (src_cx32 _ x cx HCX.out) (by unfold maxLen; omega) (by omega) (by have := N1.out.1.2.size; simp; omega) ?_
               intro v2 w5 o2 g2 at2
               have M2 := True.intro
               have N2 := Lib.hid (second_facts w (wr.drew.drew) w4 w5 v1 v2 x a (out.take a) Ao co (out.drop a) N1.out HTL.out o2 cx g2)
               clear o2 g2 at2)
            | (refine wpList_load_cx rfl (.tmp 53) rfl b (o + k * 32) rfl cx (by rw [← HCX.out, idC_size]) (range_cx cx HCX.out HL.out HGK.out N1.out.1.2) ?_)
            | (at_builtin; refine wpList_append_row _ rfl (.tmp 45) (.tmp 48) 44 44 rfl w.heap.size 23 i0 (.agg Z32) 32 32 Try.underlying44 hi hz0 hz1 hz2 hz3 (.slice none 0 0) 0 [] rfl (World.ownsRow_nil _ _ _ _) (.slice (Ao) a co) a (flatI (out.take a)) rfl (Lies.src32 HT1.out HLT1.out co) (by unfold maxLen; omega) (by omega) HFW.out.size ?_
               intro v1 w4 o1 g1 at1
               have M1 := True.intro
               have N1 := Lib.hid (first_facts w (wr.drew.drew) w4 v1 a (flatI (out.take a)) HFW.out o1 g1 at1)
               clear o1 g1 at1))
          have n3 : OwnI w w6 v3 (srtN (ns.take (k + 1))) := by
            rw [HIN.out]
            refine ⟨?_, fr_append N2.out.1.1 N2.out.1.2 g3⟩
            rw [flatI_append, List.length_append, List.length_append, HLT1.out, HLD1.out]
            exact o3
          have N3 := Lib.hid n3
          clear n3 o3 g3 at3
          go_roundw
          case rel => exact ⟨k + 1, by omega, by go_num, N3.out⟩
          case measure => simp [intOf]; omega
    · obtain rfl : k = L := by omega
      have hall : ns.take k = ns := List.take_of_length_le (by rw [HLn.out]; exact Nat.le_refl _)
      rw [hall] at ho
      have HO := Lib.hid ho
      clear ho hall
      go_wp2_with fail
      go_ret
      exact ⟨_, rfl, HO.out⟩
end Go.Proofs.Ytbfbgopbelmghaa

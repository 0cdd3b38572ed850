/- What is proved: the walk of the law RevMarks, for every tag and all bytes. Conditions: the bytes' cells are there; the library's table lies as its text lays it. -/
import Derived.Test.YtppddpbacpeadaaDoorRxh
import Derived.Test.YtppddpbacpeadaaDoorRvn
namespace Go.Proofs.YtppddpbacpeadaaDoor
open Go.RowKit Go.Sort Go.Shelf
open Ids (idC dgt big idC_size idC_get idC_one cellD zero32 size32 dgt_lt hexB)
set_option linter.unusedVariables false

set_option maxHeartbeats 6400000 in
set_option maxRecDepth 100000 in
theorem marks_walk (T : Nat) (k : Int) (a : List UInt8) (n : Int) (t : List UInt8) (ha : a.length ≤ 9223372036854775806) (ht : t.length ≤ 9223372036854775806)
    (A : Option Addr) (cap : Nat) (bs : List UInt8) (hcap : bs.length ≤ cap) (w : World) (hl : Lies w A (bytesV bs)) (hTab : Tab10 w) :
    Calls Tryd.prog 6 #[.agg (markC T k a n t), .slice A bs.length cap] w fun e w' => e = .returned (.bool true) ∧ Below w.heap.size w w' := by
  obtain ⟨w1, hw1⟩ : ∃ w1, w.alloc (.cells (markC T k a n t) 51) = w1 := ⟨_, rfl⟩
  have hF : Fr (fun _ => False) w w1 := by subst hw1; exact (Fr.refl _ w).alloc _
  have hS : MarkAt w1 w.heap.size T k a n t := by subst hw1; exact MarkAt.new w
  obtain ⟨T36, hT36⟩ : ∃ T : TypeId, T = 51 := ⟨_, rfl⟩
  obtain ⟨n36, hn36⟩ : ∃ n : Nat, n = 36 := ⟨_, rfl⟩
  have HN36 := Lib.hid hn36
  have ag36 : ∀ w, (isAgg T36).run Tryd.prog w = .ok true w := by rw [hT36]; exact fun _ => by kernel_rfl
  have sz36 : ∀ w, (sizeOf T36).run Tryd.prog w = .ok n36 w := by rw [hT36, hn36]; exact fun _ => by kernel_rfl
  have HF := Lib.hid hF
  have HLD : Hid (∀ w', Fr (fun _ => False) w1 w' → (loadCellsFrom ⟨w.heap.size, 0, none⟩ 0 n36 #[]).run Tryd.prog w' = .ok (markC T k a n t) w') := Lib.hid (fun w' f => load_all hS (by rw [hn36, markC_size]) f)
  have HL := Lib.hid (fun w' (f : Fr (fun _ => False) w w') => hl.fr f (fun _ _ e => e))
  have C9 := Lib.hid (fun w' (f : Fr (fun _ => False) w w') => works7_any w' (hTab.fr f))
  by_cases hbig : 2000 < bs.length
  · have hgt : (2000 : Int) < (bs.length : Int) := by omega
    obtain ⟨cs, hcs⟩ : ∃ cs, markC T k a n t = cs := ⟨_, rfl⟩
    rw [hcs] at hw1 ⊢
    obtain ⟨L, hL⟩ : ∃ L, bs.length = L := ⟨_, rfl⟩
    rw [hL] at hgt ⊢
    clear hL hl hbig HL hcap hTab HLD hS hF hT36 hn36 hcs
    go_enter Tryd.func6, Tryd.ntmps6
    go_wp2_with (go_at_call 17; refine (C9.out _ HF.out).mono ?_; rintro e w2 ⟨rfl, b2⟩)
    go_ret
    exact ⟨rfl, (HF.out.then_below b2).below (fun _ _ e => e)⟩
  · have hpr := getM_props bs
    have C1 := Lib.hid (fun w' (f : Fr (fun _ => False) w w') => VPutMark_any T k a n t ha ht w' (hTab.fr f))
    have C2 := Lib.hid (fun w' => QvPutMark_any T k a n t ha ht w')
    have C3 := Lib.hid (fun w' (f : Fr (fun _ => False) w w') => VGetMark_any A cap bs (by omega) w' (HL.out w' f))
    have C4 := Lib.hid (fun w' (f : Fr (fun _ => False) w w') => QvGetMark_any A cap bs (by omega) w' (HL.out w' f))
    have C5 := Lib.hid (fun w' => VCheckMark_any T k a n t ha ht w')
    have C6 := Lib.hid (fun w' => QvCheckMark_any T k a n t ha ht w')
    have CS := Lib.hid (fun w' A B c d ha hb => Same_any A B c d (putM T k a n t) (putM T k a n t) w' ha hb)
    rw [beq_self_eq_true] at CS
    unfold MarkIs at C4
    obtain ⟨r, hr⟩ : ∃ r, mchkE k a n t = r := ⟨_, rfl⟩
    obtain ⟨p, hp⟩ : ∃ p, putM T k a n t = p := ⟨_, rfl⟩
    obtain ⟨cs, hcs⟩ : ∃ cs, markC T k a n t = cs := ⟨_, rfl⟩
    rw [hr, hp, hcs] at C1 C2
    rw [hr, hcs] at C5 C6
    rw [hp] at CS
    rw [hcs] at hw1 HLD ⊢
    obtain ⟨X, hX⟩ : ∃ X, getM bs = X := ⟨_, rfl⟩
    rw [hX] at C3 C4 hpr
    obtain ⟨⟨T2, k2, a2, n2, t2⟩, E⟩ := X
    simp only [] at C3 C4 hpr
    have hsz := markC_size T2 k2 a2 n2 t2
    have hon := markC_one T2 k2 a2 n2 t2
    have heq := fun w => eq_mark T2 k2 a2 n2 t2 10000 (by decide) w
    obtain ⟨cg, hcg⟩ : ∃ cs, markC T2 k2 a2 n2 t2 = cs := ⟨_, rfl⟩
    rw [hcg] at C3 C4 hsz hon heq
    obtain ⟨L, hL⟩ : ∃ L, bs.length = L := ⟨_, rfl⟩
    rw [hL] at C3 C4 hbig ⊢
    have hle : ¬ ((2000 : Int) < (L : Int)) := by omega
    clear hr hp hcs hX hcg hL hF hS hl hTab hcap ha ht hpr hn36
    go_enter Tryd.func6, Tryd.ntmps6
    rw [show Op.load 51 (.tmp 2) = Op.load T36 (.tmp 2) by rw [hT36], show Op.load 51 (.tmp 9) = Op.load T36 (.tmp 9) by rw [hT36], show Op.load 51 (.tmp 11) = Op.load T36 (.tmp 11) by rw [hT36]]
    clear hT36
    have l0 := HLD.out _ (Fr.refl _ w1)
    go_wp2_with (first
      | (go_at_call 22
         refine (C1.out _ HF.out).mono ?_
         rintro e w2 ⟨v1, rfl, o1⟩
         obtain ⟨A1, c1, rfl, _, l1, _⟩ := o1.slice
         have F1 := Lib.hid o1.2
         have L1 := Lib.hid l1
         have l00 := HLD.out _ o1.2
         clear o1 l1)
      | (go_at_call 23
         refine (C2.out _).mono ?_
         rintro e w3 ⟨A2, c2, rfl, l2, b2⟩
         have L2 := Lib.hid l2
         have F2 := Lib.hid (F1.out.then_below b2)
         have L1' := Lib.hid (L1.out.fr (Fr.of_below (S := fun _ => False) b2) (fun _ _ e => e))
         clear l2 b2)
      | (go_at_call 24
         refine (C3.out _ (HF.out.trans F2.out (fun _ _ e => e))).mono ?_
         rintro e w4 ⟨rfl, f4⟩
         have F4 := Lib.hid f4
         clear f4)
      | (go_at_call 25
         refine (C4.out _ ((HF.out.trans F2.out (fun _ _ e => e)).trans F5.out (fun _ _ e => e))).mono ?_
         rintro e w6 ⟨rfl, f6⟩
         have F6 := Lib.hid f6
         have M6 := True.intro
         clear f6)
      | (have _ := M6
         refine wpList_store_at rfl 51 _ _ rfl w6.heap.size 0 51 zeroM cg rfl rfl (Whole.new w6 51 zeroM) (by rw [hsz]; decide) (by rw [hsz]; exact size36m) hon ?_
         intro w7 hw7 hf7
         rw [laidAt_all _ _ (by rw [hsz]; rfl)] at hw7
         have W7 := Lib.hid hw7
         have F7 := Lib.hid (((Fr.refl (fun _ => False) w6).alloc (.cells zeroM 51)).trans hf7 (fun i hi e => by omega) : Fr (fun _ => False) w6 w7)
         clear hw7 hf7)
      | (refine wpList_store_at rfl 51 _ _ rfl w4.heap.size 0 51 zeroM cg rfl rfl (Whole.new w4 51 zeroM) (by rw [hsz]; decide) (by rw [hsz]; exact size36m) hon ?_
         intro w5 hw5 hf5
         rw [laidAt_all _ _ (by rw [hsz]; rfl)] at hw5
         have W5 := Lib.hid hw5
         have F45 := Lib.hid (((Fr.refl (fun _ => False) w4).alloc (.cells zeroM 51)).trans hf5 (fun i hi e => by omega) : Fr (fun _ => False) w4 w5)
         have F5 := Lib.hid (F4.out.trans F45.out (fun _ _ e => e))
         clear hw5 hf5))
    have F57 := Lib.hid (F6.out.trans F7.out (fun _ _ e => e))
    have F37 := Lib.hid (F5.out.trans F57.out (fun _ _ e => e))
    have HFF := Lib.hid (HF.out.trans (F2.out.trans F37.out (fun _ _ e => e)) (fun _ _ e => e))
    have L1z := Lib.hid (L1'.out.fr F37.out (fun _ _ e => e))
    have L2z := Lib.hid (L2.out.fr F37.out (fun _ _ e => e))
    have lq : ∀ q : Later w7, (loadCellsFrom ⟨w.heap.size, 0, none⟩ 0 n36 #[]).run Tryd.prog q.w' = .ok cs q.w' := fun q => HLD.out _ ((F2.out.trans F37.out (fun _ _ e => e)).trans q.fr (fun _ _ e => e))
    have lq5 : ∀ q : Later w7, (loadCellsFrom ⟨w4.heap.size, 0, none⟩ 0 n36 #[]).run Tryd.prog q.w' = .ok cg q.w' := fun q => load_all W5.out (by rw [HN36.out, hsz]) (F57.out.trans q.fr (fun _ _ e => e))
    have lq7 : ∀ q : Later w7, (loadCellsFrom ⟨w6.heap.size, 0, none⟩ 0 n36 #[]).run Tryd.prog q.w' = .ok cg q.w' := fun q => load_all W7.out (by rw [HN36.out, hsz]) q.fr
    clear hw1 l0 l00
    refine wp_region_later (w0 := w7) (Fr.refl _ _) (by kernel_rfl) (by kernel_rfl) ?_
    repeat (quiet_step ((first
      | (go_at_call 12; refine Calls.later_of_same (CS.out _ _ _ _ _ (L1z.out.fr (Later.fr _) (fun _ _ e => e)) (L2z.out.fr (Later.fr _) (fun _ _ e => e))))
      | (go_at_call 26; refine Calls.later_of (C5.out _))
      | (go_at_call 27; refine Calls.later_of (C6.out _))
      | (go_at_call 17; refine Calls.later_of (C9.out _ (HFF.out.trans (Later.fr _) (fun _ _ e => e)))))))
    refine wpQuiet_nil ?_
    intro _ hw'
    obtain ⟨q, hw''⟩ := hw'
    subst hw''
    go_wp2_with fail
    go_ret
    exact ⟨rfl, (HFF.out.trans q.fr (fun _ _ e => e)).below (fun _ _ e => e)⟩
end Go.Proofs.YtppddpbacpeadaaDoor

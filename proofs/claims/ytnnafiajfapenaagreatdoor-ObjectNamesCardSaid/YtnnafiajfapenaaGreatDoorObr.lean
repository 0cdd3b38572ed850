/- What is proved: the walk of the law ObjectNames, for every kind and body. Conditions: the listed tables lie as their text lays them; the body's cells are there. -/
import Derived.Test.YtnnafiajfapenaaGreatDoorObn
import Derived.Test.YtnnafiajfapenaaGreatDoorObf
import Derived.Test.YtnnafiajfapenaaGreatDoorBc
namespace Go.Proofs.YtnnafiajfapenaaGreatDoor
open Go.RowKit Go.Sort Go.Shelf
set_option linter.unusedVariables false

theorem load_allO {w w' : World} {g n : Nat} {t : TypeId} {cs : Array Value} (h : Whole w g t cs) (hn : n = cs.size) (f : Fr (fun _ => False) w w') : (loadCellsFrom ⟨g, 0, none⟩ 0 n #[]).run Tryz.prog w' = .ok cs w' :=
  load_mid h f hn (fun j v hv => by rw [Nat.zero_add, ← hv, Array.getElem?_toList])
set_option maxHeartbeats 6400000 in
set_option maxRecDepth 100000 in
theorem names_walk (k : Int) (A : Option Addr) (c : Nat) (l : List UInt8) (hcap : l.length ≤ c) (w : World) (hl : Lies w A (bytesV l)) (hTab : Tab10 w) (hK : Tab w) :
    Calls Tryz.prog 5 #[.int .i64 k, .slice A l.length c] w fun e w' => e = .returned (.bool true) ∧ Below w.heap.size w w' := by
  have HL := Lib.hid (fun w' (f : Fr (fun _ => False) w w') => hl.fr f (fun _ _ e => e))
  have C9 := Lib.hid (fun w' (f : Fr (fun _ => False) w w') => works8_any w' (hTab.fr f))
  by_cases hbig : 5000 < l.length
  · have hgt : (5000 : Int) < (l.length : Int) := by omega
    obtain ⟨L, hL⟩ : ∃ L, l.length = L := ⟨_, rfl⟩
    rw [hL] at hgt ⊢
    clear hL hl hbig HL hcap hTab hK
    go_enter Tryz.func5, Tryz.ntmps5
    go_wp2_with (go_at_call 7; refine (C9.out _ (Fr.refl _ _)).mono ?_; rintro e w2 ⟨rfl, f2⟩)
    go_ret
    exact ⟨rfl, f2.below (fun _ _ e => e)⟩
  · obtain ⟨T32, hT32⟩ : ∃ T : TypeId, T = 41 := ⟨_, rfl⟩
    obtain ⟨n32, hn32⟩ : ∃ n : Nat, n = 32 := ⟨_, rfl⟩
    have HN32 := Lib.hid hn32
    have ag32 : ∀ w, (isAgg T32).run Tryz.prog w = .ok true w := by rw [hT32]; exact fun _ => by kernel_rfl
    have sz32 : ∀ w, (sizeOf T32).run Tryz.prog w = .ok n32 w := by rw [hT32, hn32]; exact fun _ => by kernel_rfl
    have C1 := Lib.hid (ObName_any k A c l hcap (by omega) w hl hTab hK)
    have C2 := Lib.hid (fun w' (f : Fr (fun _ => False) w w') => QbName_any k A c l hcap (by omega) w' (HL.out w' f))
    have C3 := Lib.hid (fun w' (f : Fr (fun _ => False) w w') => ObBytes_any k A c l hcap (by omega) w' (HL.out w' f) (hTab.fr f))
    have hol := objB_le k l
    have C4 := Lib.hid (fun w' A c (h : Lies w' A (bytesV (objB k l))) => QOf_any A c (objB k l) w' h (by omega))
    have HV0 : Hid (chkO k l = 0 → nameV k l = sumV (objB k l)) := Lib.hid (fun e => by rw [nameV, if_pos e])
    have hvs := nameV_size k l
    have hvo := nameV_one k l
    have heq := fun w => eqName k l w
    obtain ⟨V, hV⟩ : ∃ V, nameV k l = V := ⟨_, rfl⟩
    rw [hV] at C1 C2 HV0 hvs hvo heq
    obtain ⟨r, hr⟩ : ∃ r, chkO k l = r := ⟨_, rfl⟩
    rw [hr] at C1 C2 C3 HV0
    obtain ⟨P, hP⟩ : ∃ P, objB k l = P := ⟨_, rfl⟩
    rw [hP] at C3 C4 HV0
    obtain ⟨L, hL⟩ : ∃ L, l.length = L := ⟨_, rfl⟩
    rw [hL] at C1 C2 C3 hbig ⊢
    have hle : ¬ ((5000 : Int) < (L : Int)) := by omega
    clear hV hr hP hL hl hTab hK hcap hbig HL hol hn32
    go_enter Tryz.func5, Tryz.ntmps5
    rw [show Op.load 41 (.tmp 5) = Op.load T32 (.tmp 5) by rw [hT32], show Op.load 41 (.tmp 7) = Op.load T32 (.tmp 7) by rw [hT32]]
    clear hT32
    go_wp2_with (first
      | (go_at_call 8; refine (C3.out w5 F5.out).mono ?_; rintro e w6 ⟨A6, c6, rfl, hc6, hl6, f6⟩; have L6 := Lib.hid hl6; have F6 := Lib.hid (F5.out.trans f6 (fun _ _ e => e)); have F36 := Lib.hid (F35.out.trans f6 (fun _ _ e => e)); have F56 := Lib.hid f6
         have l3 := load_allO (n := n32) W3.out (by rw [HN32.out, hvs]) F36.out
         have l5 := load_allO (n := n32) W5.out (by rw [HN32.out, hvs]) F56.out
         clear hc6 hl6 f6)
      | (have _ := M4
         refine wpList_store_at rfl 41 _ _ rfl w4.heap.size 0 41 zero32 V rfl rfl (Whole.new w4 41 zero32) (by rw [hvs]; decide) (by rw [hvs]; exact size32) hvo ?_
         intro w5 hw5 hf5
         rw [laidAt_all _ _ (by rw [hvs]; rfl)] at hw5
         have W5 := Lib.hid hw5
         have f45 : Fr (fun _ => False) w4 w5 := ((Fr.refl (fun _ => False) w4).alloc (.cells zero32 41)).trans hf5 (fun i hi e => by omega)
         have F5 := Lib.hid (F4.out.trans f45 (fun _ _ e => e))
         have F35 := Lib.hid (F34.out.trans f45 (fun _ _ e => e))
         clear hw5 hf5 f45)
      | (go_at_call 20; refine (C2.out w3 F3.out).mono ?_; rintro e w4 ⟨rfl, f4⟩; have F4 := Lib.hid (F3.out.trans f4 (fun _ _ e => e)); have F34 := Lib.hid f4; have M4 := True.intro; clear f4)
      | (refine wpList_store_at rfl 41 _ _ rfl w2.heap.size 0 41 zero32 V rfl rfl (Whole.new w2 41 zero32) (by rw [hvs]; decide) (by rw [hvs]; exact size32) hvo ?_
         intro w3 hw3 hf3
         rw [laidAt_all _ _ (by rw [hvs]; rfl)] at hw3
         have W3 := Lib.hid hw3
         have F3 := Lib.hid (F2.out.trans (((Fr.refl (fun _ => False) w2).alloc (.cells zero32 41)).trans hf3 (fun i hi e => by omega)) (fun _ _ e => e) : Fr (fun _ => False) w w3)
         clear hw3 hf3)
      | (go_at_call 19; refine C1.out.mono ?_; rintro e w2 ⟨rfl, f2⟩; have F2 := Lib.hid f2; clear f2))
    have lq : ∀ q : Later w6, (loadCellsFrom ⟨w2.heap.size, 0, none⟩ 0 n32 #[]).run Tryz.prog q.w' = .ok V q.w' := fun q => load_allO W3.out (by rw [HN32.out, hvs]) (F36.out.trans q.fr (fun _ _ e => e))
    clear l3 l5
    by_cases hr0 : r = 0
    · subst hr0
      have hve := HV0.out (by first | rfl | trivial)
      rw [← hve] at C4
      clear hve
      refine wp_region_later (w0 := w6) (Fr.refl _ _) (by kernel_rfl) (by kernel_rfl) ?_
      repeat (quiet_step ((first
        | (go_at_call 21; refine Calls.later_of (C4.out _ _ _ (L6.out.fr (Later.fr _) (fun _ _ e => e))))
        | (go_at_call 7; refine Calls.later_of ((C9.out _ (F6.out.trans (Later.fr _) (fun _ _ e => e))).mono (fun e w' h => ⟨h.1, h.2.below (fun _ _ e => e)⟩))))))
      refine wpQuiet_nil ?_
      intro _ hw'
      obtain ⟨q, hw''⟩ := hw'
      subst hw''
      go_wp2_with fail
      go_ret
      exact ⟨rfl, (F6.out.trans q.fr (fun _ _ e => e)).below (fun _ _ e => e)⟩
    · have hrz : (r == 0) = false := by simp [hr0]
      refine wp_region_later (w0 := w6) (Fr.refl _ _) (by kernel_rfl) (by kernel_rfl) ?_
      repeat (quiet_step ((first
        | (go_at_call 7; refine Calls.later_of ((C9.out _ (F6.out.trans (Later.fr _) (fun _ _ e => e))).mono (fun e w' h => ⟨h.1, h.2.below (fun _ _ e => e)⟩))))))
      refine wpQuiet_nil ?_
      intro _ hw'
      obtain ⟨q, hw''⟩ := hw'
      subst hw''
      go_wp2_with fail
      go_ret
      exact ⟨rfl, (F6.out.trans q.fr (fun _ _ e => e)).below (fun _ _ e => e)⟩
end Go.Proofs.YtnnafiajfapenaaGreatDoor

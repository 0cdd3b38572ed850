/- What is proved: the walk of the law OidReads, for every text and every id. Conditions: none. -/
import Derived.Test.YtbfbgopbelmghaaOiw
namespace Go.Proofs.Ytbfbgopbelmghaa
open Go.RowKit
set_option linter.unusedVariables false

theorem build_pfx (D : Nat → Nat) (N : Int) (w : World) : (Instr.build 30 #[(0, .agg (idC D)), (1, .int .i64 N)]).run Try.prog w = .ok (.agg (pfC D N)) w := by kernel_rfl
theorem eq_id_self (D : Nat → Nat) (hD : ∀ k, D k < 16) (w : World) : (Op.equalIn 10000 23 (.agg (idC D)) (.agg (idC D))).run Try.prog w = .ok true w := by
  rw [eq_ids D D hD hD 10000 (by decide) w]
  congr 1
  exact (sameD_iff D D hD hD).2 (fun _ _ => rfl)
theorem eq_pfx_self (D : Nat → Nat) (N : Int) (hD : ∀ k, D k < 16) (w : World) : (Op.equalIn 10000 30 (.agg (pfC D N)) (.agg (pfC D N))).run Try.prog w = .ok true w := by
  rw [eq_pfxs D D hD hD N N 10000 (by decide) w, (sameD_iff D D hD hD).2 (fun _ _ => rfl)]
  simp
theorem begA_lt (s : ByteArray) (k : Nat) : begA s k < 16 := begD_lt s _ k
theorem rdA_lt (s : ByteArray) (k : Nat) : rdA s k < 16 := by
  unfold rdA
  split
  · exact begA_lt s k
  · exact Nat.zero_lt_succ 15
/-- A value put together, as a step of the lexical walk. -/
theorem quiet_build {P : Program} {ops : Array Oper} {C : World → Prop} {Q : Act → Prop} {a : Act} {o : Oper} {rest : List Oper} (hw : Region.wanted o (yielded ops a.tmps) = true) (t : TypeId) (parts : Array (Nat × Operand)) (ho : o.op = .build t parts)
    (vals : Array (Nat × Value)) (hvals : (parts.map fun (i, x) => (i, a.eval x)) = vals) (v : Value) (hv : ∀ w, (Instr.build t vals).run P w = .ok v w) (h : wpQuiet P ops C Q rest (a.put o.dst v)) : wpQuiet P ops C Q (o :: rest) a := by
  unfold wpQuiet
  rw [if_pos hw]
  refine ⟨v, fun w _ => ?_, h⟩
  unfold Oper.quietAt execOp
  simp [ho, hvals, hv, Oper.quietUpon]
/-- A whole block of n cells, read in any later world. -/
theorem load_later {w0 : World} {g n : Nat} {t : TypeId} {Z : Array Value} (h : Whole w0 g t Z) (hn : n = Z.size) {w1 : World} (f : Fr (fun _ => False) w0 w1) (q : Later w1) : (loadCellsFrom ⟨g, 0, none⟩ 0 n #[]).run Try.prog q.w' = .ok Z q.w' := by
  have := load_first h (f.trans q.fr (fun _ _ e => e)) (n := n) (by omega)
  rwa [List.take_of_length_le (by rw [Array.length_toList]; omega), Array.toArray_toList] at this

set_option maxHeartbeats 3200000 in
theorem reads_walk (s : ByteArray) (hs : s.size ≤ 9223372036854775807) (a : Nat) (w : World) : Calls Try.prog 3 #[.string s, .agg (idC (dgt a))] w fun e w' => e = .returned (.bool true) ∧ Below w.heap.size w w' := by
  obtain ⟨w1, hw1⟩ : ∃ w1, w.alloc (.cells (idC (dgt a)) 23) = w1 := ⟨_, rfl⟩
  have hF1 : Fr (fun _ => False) w w1 := by subst hw1; exact (Fr.refl _ w).alloc _
  have hX : Whole w1 w.heap.size 23 (idC (dgt a)) := by subst hw1; exact Whole.new w 23 _
  have c1 := fun w => ORead_any s hs w
  have c2 := fun w => QRead_any s hs w
  have c3 := fun w => OBegin_any s hs w
  have c4 := fun w => QBegin_any s hs w
  have c5 := fun w => OHex_any (dgt a) (dgt_lt a) w
  have c6 := fun w => QHex_any (dgt a) (dgt_lt a) w
  have hbuild := fun w => build_pfx (begA s) (begN s) w
  have heq1 := fun w => eq_id_self (rdA s) (rdA_lt s) w
  have heq2 := fun w => eq_pfx_self (begA s) (begN s) (begA_lt s) w
  obtain ⟨A, hA⟩ : ∃ c, idC (rdA s) = c := ⟨_, rfl⟩
  obtain ⟨B, hB⟩ : ∃ c, idC (begA s) = c := ⟨_, rfl⟩
  obtain ⟨M, hM⟩ : ∃ c : Int, (begN s : Int) = c := ⟨_, rfl⟩
  rw [hM] at c3 c4 hbuild heq2
  obtain ⟨P, hP⟩ : ∃ c, pfC (begA s) M = c := ⟨_, rfl⟩
  obtain ⟨E, hE⟩ : ∃ c, rdE s = c := ⟨_, rfl⟩
  obtain ⟨G, hG⟩ : ∃ c, begE s = c := ⟨_, rfl⟩
  obtain ⟨S, hS⟩ : ∃ c, hexS (dgt a) = c := ⟨_, rfl⟩
  obtain ⟨X, hXc⟩ : ∃ c, idC (dgt a) = c := ⟨_, rfl⟩
  have hAs : A.size = 32 := by rw [← hA]; exact idC_size _
  have hAo : A.all (·.oneCell') = true := by rw [← hA]; exact idC_one _
  have hBs : B.size = 32 := by rw [← hB]; exact idC_size _
  have hBo : B.all (·.oneCell') = true := by rw [← hB]; exact idC_one _
  have hPs : P.size = 33 := by rw [← hP]; exact pfC_size _ _
  have hPo : P.all (·.oneCell') = true := by rw [← hP]; exact pfC_one _ _
  have hXs : X.size = 32 := by rw [← hXc]; exact idC_size _
  rw [hA, hE] at c1 c2
  rw [hA] at heq1
  rw [hP, hG] at c3
  rw [hB, hG] at c4
  rw [hB, hP] at hbuild
  rw [hP] at heq2
  rw [hXc, hS] at c5 c6
  rw [hXc] at hw1 hX ⊢
  obtain ⟨T33, hT33⟩ : ∃ T : TypeId, T = 30 := ⟨_, rfl⟩
  obtain ⟨T32, hT32⟩ : ∃ T : TypeId, T = 23 := ⟨_, rfl⟩
  obtain ⟨n33, hn33⟩ : ∃ n : Nat, n = 33 := ⟨_, rfl⟩
  obtain ⟨n32, hn32⟩ : ∃ n : Nat, n = 32 := ⟨_, rfl⟩
  have ag33 : ∀ w, (isAgg T33).run Try.prog w = .ok true w := by rw [hT33]; exact fun _ => by kernel_rfl
  have ag32 : ∀ w, (isAgg T32).run Try.prog w = .ok true w := by rw [hT32]; exact fun _ => by kernel_rfl
  have sz33 : ∀ w, (sizeOf T33).run Try.prog w = .ok n33 w := by rw [hT33, hn33]; exact fun _ => by kernel_rfl
  have sz32 : ∀ w, (sizeOf T32).run Try.prog w = .ok n32 w := by rw [hT32, hn32]; exact fun _ => by kernel_rfl
  have hgp := guardP
  have hgi := guardI
  have HF1 := Lib.hid hF1
  have HX := Lib.hid hX
  have HN33 := Lib.hid hn33
  have HN32 := Lib.hid hn32
  have C1 := Lib.hid c1
  have C2 := Lib.hid c2
  have C3 := Lib.hid c3
  have C4 := Lib.hid c4
  have C5 := Lib.hid c5
  have C6 := Lib.hid c6
  clear hF1 hX c1 c2 c3 c4 c5 c6 hA hB hM hP hE hG hS hXc hn33 hn32
  go_enter Try.func3, Try.ntmps3
  rw [show Op.load 23 (.tmp 5) = Op.load T32 (.tmp 5) by rw [hT32], show Op.load 23 (.tmp 7) = Op.load T32 (.tmp 7) by rw [hT32], show Op.load 30 (.tmp 9) = Op.load T33 (.tmp 9) by rw [hT33],
    show Op.load 23 (.tmp 11) = Op.load T32 (.tmp 11) by rw [hT32], show Op.load 23 (.tmp 3) = Op.load T32 (.tmp 3) by rw [hT32]]
  clear hT33 hT32
  go_wp2_with (first
    | (go_at_call 12; refine (C4.out w7).mono ?_; rintro e w8 ⟨rfl, b8⟩)
    | (go_at_call 11; refine (C3.out w5).mono ?_; rintro e w6 ⟨rfl, b6⟩)
    | (go_at_call 10; refine (C2.out w3).mono ?_; rintro e w4 ⟨rfl, b4⟩)
    | (go_at_call 9; refine (C1.out w1).mono ?_; rintro e w2 ⟨rfl, b2⟩)
    | (refine wpList_store_at rfl 23 _ _ rfl w8.heap.size 0 23 _ B rfl rfl (Whole.new w8 23 zero32) (by rw [hBs]; decide) (by rw [hBs]; exact size32) hBo ?_
       intro w9 hw9 hf9
       rw [laidAt_all _ _ (by rw [hBs]; rfl)] at hw9
       have F9 : Fr (fun _ => False) w7 w9 := (((Fr.refl (fun _ => False) w7).then_below b8).alloc _).trans hf9 (fun i hi e => by have := b8.size; omega))
    | (refine wpList_store_at rfl 30 _ _ rfl w6.heap.size 0 30 _ P rfl rfl (Whole.new w6 30 zero33) (by rw [hPs]; decide) (by rw [hPs]; exact size33) hPo ?_
       intro w7 hw7 hf7
       rw [laidAt_all _ _ (by rw [hPs]; rfl)] at hw7
       have F7 : Fr (fun _ => False) w5 w7 := (((Fr.refl (fun _ => False) w5).then_below b6).alloc _).trans hf7 (fun i hi e => by have := b6.size; omega))
    | (refine wpList_store_at rfl 23 _ _ rfl w4.heap.size 0 23 _ A rfl rfl (Whole.new w4 23 zero32) (by rw [hAs]; decide) (by rw [hAs]; exact size32) hAo ?_
       intro w5 hw5 hf5
       rw [laidAt_all _ _ (by rw [hAs]; rfl)] at hw5
       have F5 : Fr (fun _ => False) w3 w5 := (((Fr.refl (fun _ => False) w3).then_below b4).alloc _).trans hf5 (fun i hi e => by have := b4.size; omega))
    | (refine wpList_store_at rfl 23 _ _ rfl w2.heap.size 0 23 _ A rfl rfl (Whole.new w2 23 zero32) (by rw [hAs]; decide) (by rw [hAs]; exact size32) hAo ?_
       intro w3 hw3 hf3
       rw [laidAt_all _ _ (by rw [hAs]; rfl)] at hw3
       have F3 : Fr (fun _ => False) w1 w3 := (((Fr.refl (fun _ => False) w1).then_below b2).alloc _).trans hf3 (fun i hi e => by have := b2.size; omega)))
  clear hw1
  have F59 := F7.trans F9 (fun _ _ e => e)
  have F39 := F5.trans F59 (fun _ _ e => e)
  have F19 := F3.trans F39 (fun _ _ e => e)
  have l1 := load_later hw3 (n := n32) (by rw [hAs]; exact HN32.out) F39
  have l2 := load_later hw5 (n := n32) (by rw [hAs]; exact HN32.out) F59
  have l3 := load_later hw7 (n := n33) (by rw [hPs]; exact HN33.out) F9
  have l4 := load_later hw9 (n := n32) (by rw [hBs]; exact HN32.out) (Fr.refl _ w9)
  have l5 := load_later HX.out (n := n32) (by rw [hXs]; exact HN32.out) F19
  have HFA := Lib.hid (HF1.out.trans F19 (fun _ _ e => e))
  clear F3 F5 F7 F9 F59 F39 F19 hw3 hw5 hw7 hw9 hf3 hf5 hf7 hf9 b2 b4 b6 b8
  refine wp_region_later (w0 := w9) (Fr.refl _ _) (by kernel_rfl) (by kernel_rfl) ?_
  repeat (first
    | refine quiet_build (by rfl) 30 #[(0, .tmp 45), (1, .tmp 46)] (by rfl) #[(0, .agg B), (1, .int .i64 M)] (by first | rfl | kernel_rfl | simp [Act.eval]) (.agg P) hbuild ?_
    | quiet_step ((first
      | (go_at_call 13; refine Calls.later_of (C5.out _))
      | (go_at_call 14; refine Calls.later_of (C6.out _))
      | (go_at_call 15; refine Calls.later_of (works_any _)))))
  refine wpQuiet_nil ?_
  intro _ hw'
  obtain ⟨q, hw''⟩ := hw'
  subst hw''
  go_wp2_with fail
  go_ret
  exact ⟨rfl, (HFA.out.trans q.fr (fun _ _ e => e)).below (fun _ _ e => e)⟩
end Go.Proofs.Ytbfbgopbelmghaa

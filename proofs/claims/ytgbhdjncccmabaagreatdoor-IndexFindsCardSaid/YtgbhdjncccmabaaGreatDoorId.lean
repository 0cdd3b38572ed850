/- What is proved: what the walks of this seat need of layers below, merged out of the texts Ora Orb Orc (of each just what is needed). Conditions: each theorem names its own. -/
import Derived.Test.YtgbhdjncccmabaaGreatDoorIc
set_option maxRecDepth 100000
/- What is proved: plain facts on which ids of a rising list begin alike: they stand side by side; how many digits tell one from all others, and that the two at its sides decide. Conditions: none; no program is walked. -/
namespace Go.Proofs.YtgbhdjncccmabaaGreatDoor
open Go.RowKit
set_option linter.unusedVariables false
theorem fit_ge {a x : Nat} {N : Int} (h : fitB a N x = true) : a ≤ x := by
  rw [fitB, decide_eq_true_eq] at h
  obtain ⟨_, _, h1, h2⟩ := h
  rw [RightN] at h1
  have e1 := Nat.div_add_mod a (16 ^ (64 - N.toNat))
  have e2 := Nat.div_add_mod x (16 ^ (64 - N.toNat))
  rw [h1, h2] at e1
  omega
theorem fit_between {a x y : Nat} {N : Int} (h : fitB a N x = true) (h1 : a ≤ y) (h2 : y ≤ x) : fitB a N y = true := by
  rw [fitB, decide_eq_true_eq] at h ⊢
  obtain ⟨g1, g2, g3, g4⟩ := h
  refine ⟨g1, g2, g3, ?_⟩
  have e1 := Nat.div_le_div_right (c := 16 ^ (64 - N.toNat)) h1
  have e2 := Nat.div_le_div_right (c := 16 ^ (64 - N.toNat)) h2
  omega
theorem cnt_succ (p : Nat → Bool) (ns : List Nat) (k : Nat) (hk : k < ns.length) : (ns.take (k + 1)).countP p = (ns.take k).countP p + if p (gt ns k) then 1 else 0 := by
  rw [List.take_add_one, gt_some ns k hk, List.countP_append]
  simp [List.countP_cons]
theorem cnt_seg (p : Nat → Bool) (ns : List Nat) (f m : Nat) (h : ∀ i, i < ns.length → p (gt ns i) = decide (f ≤ i ∧ i < f + m)) (k : Nat) (hk : k ≤ ns.length) : (ns.take k).countP p = min k (f + m) - min k f := by
  induction k with
  | zero => simp
  | succ k ih =>
    rw [cnt_succ p ns k hk, ih (by omega), h k hk]
    by_cases c : f ≤ k ∧ k < f + m
    · rw [decide_eq_true c, if_pos rfl]; omega
    · rw [decide_eq_false c]
      simp only [Bool.false_eq_true, if_false]
      omega
theorem range_count (ns : List Nat) (a : Nat) (N : Int) (m : Nat) (hr : ris ns) (h : Found (ns.length - posN ns a) (fun i => !fitB a N (gt ns (posN ns a + i))) m) : ns.countP (fitB a N) = m := by
  have hp := pos_le ns a
  have hm := h.le
  have := cnt_seg (fitB a N) ns (posN ns a) m (fun i hi => ?_) ns.length (Nat.le_refl _)
  · rw [List.take_length] at this
    omega
  · by_cases c : posN ns a ≤ i ∧ i < posN ns a + m
    · rw [decide_eq_true c]
      have := h.below (i - posN ns a) (by omega)
      simpa [show posN ns a + (i - posN ns a) = i by omega] using this
    · rw [decide_eq_false c]
      cases hf : fitB a N (gt ns i) with
      | false => rfl
      | true =>
        exfalso
        have h1 := fit_ge hf
        rcases Nat.lt_or_ge i (posN ns a) with h2 | h2
        · have := pos_below ns a i h2
          omega
        · have h3 := h.here (by omega)
          have h4 : gt ns (posN ns a + m) ≤ gt ns i := by
            rcases Nat.lt_or_ge (posN ns a + m) i with h5 | h5
            · exact Nat.le_of_lt (hr _ _ h5 hi)
            · rw [show i = posN ns a + m by omega]
              exact Nat.le_refl _
          have h5 := fit_between hf (pos_above' ns hr a (posN ns a + m) (by omega) (by omega)) h4
          rw [h5] at h3
          cases h3
/-- Those that begin so: from where, and up to where. -/
def rgA (ns : List Nat) (a : Nat) (N : Int) : Nat := if rightB a N = true ∧ risB ns = true then posN ns a else 0
def rgB (ns : List Nat) (a : Nat) (N : Int) : Nat := if rightB a N = true ∧ risB ns = true then posN ns a + ns.countP (fitB a N) else 0
end Go.Proofs.YtgbhdjncccmabaaGreatDoor
/- What is proved: with how many digits two ids begin alike, by the program; the question that Range asks of a place. Conditions: the list's cells are there. -/
namespace Go.Proofs.YtgbhdjncccmabaaGreatDoor
open Go.RowKit
set_option linter.unusedVariables false
theorem wrap_nat2 (f i : Nat) (h : f + i ≤ 100000) : IntKind.i64.wrap ((f : Int) + (i : Int)) = (f : Int) + (i : Int) := by rw [IntKind.wrap_i64]; omega
theorem toNat_nat2 (f i : Nat) : ((f : Int) + (i : Int)).toNat = f + i := by omega
theorem nonneg_nat2 (f i : Nat) : (0 : Int) ≤ (f : Int) + (i : Int) := by omega
set_option maxHeartbeats 3200000 in
/-- The question that Range asks of a place. -/
theorem ORange1_any (gp gl gf b o cap : Nat) (ns : List Nat) (a : Nat) (N : Int) (h0 : -9223372036854775808 ≤ N) (h1 : N ≤ 9223372036854775807) (hb : ∀ n ∈ ns, n < big) (ha : a < big) (hn : ns.length ≤ 1000) (f i : Nat) (hi : f + i < ns.length) (w : World)
    (hP : Whole w gp 26 (pfC (dgt a) N)) (hl : w.cell? ⟨gl, 0, none⟩ = some (.slice (some ⟨b, o, none⟩) ns.length cap)) (hf : w.cell? ⟨gf, 0, none⟩ = some (.int .i64 f)) (h : Lies w (some ⟨b, o, none⟩) (flatI ns)) :
    Calls Tryz.prog 58 #[.int .i64 i, .pointer (some ⟨gp, 0, none⟩), .pointer (some ⟨gl, 0, none⟩), .pointer (some ⟨gf, 0, none⟩)] w fun e w' => e = .returned (.bool (!fitB a N (gt ns (f + i)))) ∧ Below w.heap.size w w' := by
  obtain ⟨T32, hT32⟩ : ∃ T : TypeId, T = 24 := ⟨_, rfl⟩
  obtain ⟨n32, hn32⟩ : ∃ n : Nat, n = 32 := ⟨_, rfl⟩
  have ag32 : ∀ w, (isAgg T32).run Tryz.prog w = .ok true w := by rw [hT32]; exact fun _ => by kernel_rfl
  have sz32 : ∀ w, (sizeOf T32).run Tryz.prog w = .ok n32 w := by rw [hT32, hn32]; exact fun _ => by kernel_rfl
  obtain ⟨T33, hT33⟩ : ∃ T : TypeId, T = 26 := ⟨_, rfl⟩
  obtain ⟨n33, hn33⟩ : ∃ n : Nat, n = 33 := ⟨_, rfl⟩
  have ag33 : ∀ w, (isAgg T33).run Tryz.prog w = .ok true w := by rw [hT33]; exact fun _ => by kernel_rfl
  have sz33 : ∀ w, (sizeOf T33).run Tryz.prog w = .ok n33 w := by rw [hT33, hn33]; exact fun _ => by kernel_rfl
  have hma := hb _ (gt_mem ns (f + i) hi)
  have l0 : ∀ q : Later w, q.w'.cell? ⟨gl, 0, none⟩ = some (.slice (some ⟨b, o, none⟩) ns.length cap) := fun q => q.fr.cell hl (fun e => e)
  have l1 : ∀ q : Later w, (loadCellsFrom ⟨b, o + (f + i) * 32, none⟩ 0 n32 #[]).run Tryz.prog q.w' = .ok (idC (dgt (gt ns (f + i)))) q.w' := fun q => by rw [hn32]; exact load_at h (gt_some ns (f + i) hi) q.fr
  have l2 : ∀ q : Later w, q.w'.cell? ⟨gf, 0, none⟩ = some (.int .i64 f) := fun q => q.fr.cell hf (fun e => e)
  have l3 : ∀ q : Later w, (loadCellsFrom ⟨gp, 0, none⟩ 0 n33 #[]).run Tryz.prog q.w' = .ok (pfC (dgt a) N) q.w' := fun q => load_later hP (by rw [pfC_size]; exact hn33) (Fr.refl _ w) q
  have cc := fun w => OFits_any a (gt ns (f + i)) ha hma N h0 h1 w
  obtain ⟨r, hr⟩ : ∃ r, fitB a N (gt ns (f + i)) = r := ⟨_, rfl⟩
  obtain ⟨ca, hca⟩ : ∃ c, idC (dgt (gt ns (f + i))) = c := ⟨_, rfl⟩
  obtain ⟨cp, hcp⟩ : ∃ c, pfC (dgt a) N = c := ⟨_, rfl⟩
  obtain ⟨L, hL⟩ : ∃ L, ns.length = L := ⟨_, rfl⟩
  rw [hca, hcp, hr] at cc
  rw [hca] at l1
  rw [hcp] at l3
  rw [hr]
  rw [hL] at hn hi l0
  have CC := Lib.hid cc
  have hi0 : (f : Int) + (i : Int) < L := by omega
  have wk := wrap_nat2 f i (by omega)
  have tn := toNat_nat2 f i
  have nn := nonneg_nat2 f i
  clear hca hcp hr cc hL hma hl hf hP h hb ha hn32 hn33 h0 h1 hi
  go_enter Tryz.func58, Tryz.ntmps58
  rw [show Op.load 24 (.tmp 11) = Op.load T32 (.tmp 11) by rw [hT32], show Op.load 26 (.tmp 1) = Op.load T33 (.tmp 1) by rw [hT33]]
  clear hT32 hT33
  go_wp2_with fail
  refine wp_region_later (w0 := w) (Fr.refl _ _) (by kernel_rfl) (by kernel_rfl) ?_
  repeat (quiet_step ((go_at_call 59; refine Calls.later_of (CC.out _))))
  refine wpQuiet_nil ?_
  intro _ hw'
  obtain ⟨q, hw''⟩ := hw'
  subst hw''
  go_wp2_with fail
  go_ret
  exact ⟨rfl, q.fr.below (fun _ _ e => e)⟩
end Go.Proofs.YtgbhdjncccmabaaGreatDoor
/- What is proved: which of a list's ids begin so, by the program. Conditions: the list's cells are there. -/
namespace Go.Proofs.YtgbhdjncccmabaaGreatDoor
open Go.RowKit
set_option linter.unusedVariables false
theorem rg_no1 (ns : List Nat) (a : Nat) (N : Int) (h : rightB a N = false ∨ risB ns = false) : rgA ns a N = 0 ∧ rgB ns a N = 0 := by
  unfold rgA rgB
  rcases h with h | h <;> simp [h]
theorem rg_yes (ns : List Nat) (a : Nat) (N : Int) (h : rightB a N = true) (h2 : risB ns = true) : rgA ns a N = posN ns a ∧ rgB ns a N = posN ns a + ns.countP (fitB a N) := by
  unfold rgA rgB
  simp [h, h2]
set_option maxHeartbeats 3200000 in
theorem ORange_any (A : Option Addr) (cap : Nat) (ns : List Nat) (a : Nat) (N : Int) (h0 : -9223372036854775808 ≤ N) (h1 : N ≤ 9223372036854775807) (hb : ∀ n ∈ ns, n < big) (ha : a < big) (hn : ns.length ≤ 1000) (w : World) (h : Lies w A (flatI ns)) :
    Calls Tryz.prog 38 #[.slice A ns.length cap, .agg (pfC (dgt a) N)] w fun e w' => e = .returned (.tuple #[.int .i64 (rgA ns a N), .int .i64 (rgB ns a N)]) ∧ Below w.heap.size w w' := by
  obtain ⟨w0, hw0⟩ : ∃ w0, w.alloc (.cells #[.slice A ns.length cap] 51) = w0 := ⟨_, rfl⟩
  obtain ⟨w1, hw1⟩ : ∃ w1, w0.alloc (.cells (pfC (dgt a) N) 26) = w1 := ⟨_, rfl⟩
  have hF0 : Fr (fun _ => False) w w0 := by subst hw0; exact (Fr.refl _ w).alloc _
  have hF1 : Fr (fun _ => False) w0 w1 := by subst hw1; exact (Fr.refl _ w0).alloc _
  have hF := hF0.trans hF1 (fun _ _ e => e)
  have hC0 : w1.cell? ⟨w.heap.size, 0, none⟩ = some (.slice A ns.length cap) := by subst hw0; exact hF1.cell (one_cell w _ _) (fun e => e)
  have hP : Whole w1 w0.heap.size 26 (pfC (dgt a) N) := by subst hw1; exact Whole.new w0 26 _
  have hl1 := h.fr hF (fun _ _ e => e)
  have HL := Lib.hid hl1
  have HB := Lib.hid hb
  have HF := Lib.hid hF
  have HP := Lib.hid hP
  have HC0 := Lib.hid hC0
  have HAB := Lib.hid ha
  have HN := Lib.hid (And.intro h0 h1)
  have CR := Lib.hid (fun w => ORight_any a ha N h0 h1 w)
  have CI := Lib.hid (fun w' (f : Fr (fun _ => False) w1 w') => ORising_any A cap ns hb hn w' (hl1.fr f (fun _ _ e => e)))
  have CF := Lib.hid (fun w' (f : Fr (fun _ => False) w1 w') => OFind_any A cap ns a hb ha hn w' (hl1.fr f (fun _ _ e => e)))
  have HLP := Lib.hid (fun w' (f : Fr (fun _ => False) w1 w') => (by
    have := load_first hP f (n := 33) (by rw [pfC_size]; omega)
    rwa [List.take_of_length_le (by rw [Array.length_toList, pfC_size]; omega), Array.toArray_toList] at this : (loadCellsFrom ⟨w0.heap.size, 0, none⟩ 0 33 #[]).run Tryz.prog w' = .ok (pfC (dgt a) N) w'))
  have HLI := Lib.hid (fun w' (f : Fr (fun _ => False) w1 w') => (by
    have := load_first hP f (n := 32) (by rw [pfC_size]; omega)
    rwa [pfC_ids, Array.toArray_toList] at this : (loadCellsFrom ⟨w0.heap.size, 0, none⟩ 0 32 #[]).run Tryz.prog w' = .ok (idC (dgt a)) w'))
  have eg : ∀ args w, (callFunc 58 args).run Tryz.prog w = .ok (.enter 58 args) w := enters_of Tryz.func58 (by kernel_rfl) rfl
  have EG := Lib.hid eg
  have HSE := Lib.hid (fun (gf : Nat) (w2 : World) (hf2 : Fr (fun _ => False) w1 w2) (hc2 : w2.cell? ⟨gf, 0, none⟩ = some (.int .i64 (posN ns a))) (hr : ris ns) => show Calls Tryz.prog 57 #[.int .i64 (ns.length - posN ns a : Nat), .func (.func 58) #[] #[.pointer (some ⟨w0.heap.size, 0, none⟩), .pointer (some ⟨w.heap.size, 0, none⟩), .pointer (some ⟨gf, 0, none⟩)]] w2 fun e w' => e = .returned (.int .i64 (ns.countP (fitB a N) : Nat)) ∧ Below w2.heap.size w2 w' from by
    refine (GSearch_any 58 _ (ns.length - posN ns a) (fun i => !fitB a N (gt ns (posN ns a + i))) w2 EG.out (by omega) (fun q i hi => ?_) (fun x c hac hc hx => ?_)).mono ?_
    · obtain ⟨b, o, hA⟩ := HL.out.some_of (by omega)
      subst hA
      exact ORange1_any w0.heap.size w.heap.size gf b o cap ns a N HN.out.1 HN.out.2 HB.out HAB.out hn (posN ns a) i (by omega) q.w' (HP.out.fr (hf2.trans q.fr (fun _ _ e => e)) (fun e => e)) ((hf2.trans q.fr (fun _ _ e => e)).cell HC0.out (fun e => e)) (q.fr.cell hc2 (fun e => e)) (HL.out.fr (hf2.trans q.fr (fun _ _ e => e)) (fun _ _ e => e))
    · cases hfc : fitB a N (gt ns (posN ns a + c)) with
      | false => rfl
      | true =>
        exfalso
        have hle : gt ns (posN ns a + x) ≤ gt ns (posN ns a + c) := by
          rcases Nat.lt_or_ge x c with h2 | h2
          · exact Nat.le_of_lt (hr _ _ (by omega) (by omega))
          · rw [show x = c by omega]; exact Nat.le_refl _
        have := fit_between hfc (pos_above' ns hr a (posN ns a + x) (by omega) (by omega)) hle
        rw [this] at hx
        cases hx
    · rintro e w3 ⟨m, rfl, hfo, b3⟩
      exact ⟨by rw [range_count ns a N m hr hfo], b3⟩)
  have hpl := pos_le ns a
  obtain ⟨L, hL⟩ : ∃ L, ns.length = L := ⟨_, rfl⟩
  have HLn := Lib.hid hL
  obtain ⟨cp, hcp⟩ : ∃ c, pfC (dgt a) N = c := ⟨_, rfl⟩
  obtain ⟨ci, hci⟩ : ∃ c, idC (dgt a) = c := ⟨_, rfl⟩
  obtain ⟨T33, hT33⟩ : ∃ T : TypeId, T = 26 := ⟨_, rfl⟩
  obtain ⟨T32, hT32⟩ : ∃ T : TypeId, T = 24 := ⟨_, rfl⟩
  obtain ⟨n33, hn33⟩ : ∃ n : Nat, 33 = n := ⟨_, rfl⟩
  obtain ⟨n32, hn32⟩ : ∃ n : Nat, 32 = n := ⟨_, rfl⟩
  have ag33 : ∀ w, (isAgg T33).run Tryz.prog w = .ok true w := by rw [hT33]; exact fun _ => by kernel_rfl
  have ag32 : ∀ w, (isAgg T32).run Tryz.prog w = .ok true w := by rw [hT32]; exact fun _ => by kernel_rfl
  have sz33 : ∀ w, (sizeOf T33).run Tryz.prog w = .ok n33 w := by rw [hT33, ← hn33]; exact fun _ => by kernel_rfl
  have sz32 : ∀ w, (sizeOf T32).run Tryz.prog w = .ok n32 w := by rw [hT32, ← hn32]; exact fun _ => by kernel_rfl
  rw [hL] at hn hC0 hw0 HSE CI CF hpl ⊢
  rw [hcp] at CR HLP hw1 ⊢
  rw [hci] at CF HLI
  rw [hn33] at HLP
  rw [hn32] at HLI
  have hmf : ∀ (fn : Fn) (first cap : Array Value) (w : World), (Instr.makeFunc fn first cap).run Tryz.prog w = .ok (.func fn first cap) w := fun _ _ _ _ => rfl
  have lp := HLP.out w1 (Fr.refl _ _)
  clear h hb hL hn33 hn32 hF0 hF1 hF hP hl1 ha hcp hci eg h0 h1
  by_cases hrt : rightB a N = true
  · rw [hrt] at CR
    by_cases hr : risB ns = true
    · have HR := Lib.hid hr
      have HRG := Lib.hid (rg_yes ns a N hrt hr)
      have HAT : Hid (fAt ns a = posN ns a) := Lib.hid (by rw [fAt, if_pos hr])
      rw [hr] at CI
      rw [HAT.out] at CF
      rw [HRG.out.1, HRG.out.2]
      obtain ⟨p, hp⟩ : ∃ p, posN ns a = p := ⟨_, rfl⟩
      obtain ⟨m, hm⟩ : ∃ m, ns.countP (fitB a N) = m := ⟨_, rfl⟩
      obtain ⟨bh, hbh⟩ : ∃ m, fHas ns a = m := ⟨_, rfl⟩
      have hml : m ≤ L := by rw [← hm, ← HLn.out]; exact List.countP_le_length
      rw [hp] at CF HSE hpl ⊢
      rw [hm] at HSE ⊢
      rw [hbh] at CF
      have hsub : ((L - p : Nat) : Int) = (L : Int) - p := by omega
      rw [hsub] at HSE
      have wk := wrap_nat2 p m (by omega)
      have ws : IntKind.i64.wrap ((L : Int) - p) = (L : Int) - p := by rw [IntKind.wrap_i64]; omega
      clear hr hrt hp hm hbh hsub HRG HAT
      go_enter Tryz.func38, Tryz.ntmps38
      rw [show Op.load 26 (.tmp 3) = Op.load T33 (.tmp 3) by rw [hT33], show Op.load 24 (.tmp 19) = Op.load T32 (.tmp 19) by rw [hT32]]
      clear hT33 hT32
      go_wp2_with (first
        | (go_at_call 57; refine (HSE.out w4.heap.size wa F5 d4 ((risB_iff ns).1 HR.out)).mono ?_; rintro e w5 ⟨rfl, b5⟩
           have F6 := Lib.hid (F5.then_below b5)
           have l6 : ∀ q : Later w5, q.w'.cell? ⟨w4.heap.size, 0, none⟩ = some (.int .i64 (p : Int)) := fun q => (((Fr.refl (fun _ => False) wa).then_below b5).trans q.fr (fun _ _ e => e)).cell d4 (fun e => e))
        | (go_at_call 56; refine (CF.out w3 F3).mono ?_; rintro e w4 ⟨rfl, b4⟩
           obtain ⟨wa, hwa⟩ : ∃ wa, w4.alloc (.cells #[.int .i64 (p : Int)] 3) = wa := ⟨_, rfl⟩
           have F5 : Fr (fun _ => False) w1 wa := by subst hwa; exact (F3.then_below b4).alloc _
           have c4 := F5.cell HC0.out (fun e => e)
           rw [HLn.out] at c4
           have d4 : wa.cell? ⟨w4.heap.size, 0, none⟩ = some (.int .i64 (p : Int)) := by subst hwa; exact one_cell w4 _ _)
        | (go_at_call 27; refine (CI.out w2 F2).mono ?_; rintro e w3 ⟨rfl, b3⟩
           have F3 := F2.then_below b3
           have li := HLI.out w3 F3
           have c3 := F3.cell HC0.out (fun e => e)
           rw [HLn.out] at c3)
        | (go_at_call 55; refine (CR.out _).mono ?_; rintro e w2 ⟨rfl, b2⟩
           have F2 := (Fr.refl (fun _ => False) w1).then_below b2
           have c2 := F2.cell HC0.out (fun e => e)
           rw [HLn.out] at c2))
      refine wp_region_later (w0 := w5) (Fr.refl _ _) (by kernel_rfl) (by kernel_rfl) ?_
      repeat (quiet_step (fail))
      refine wpQuiet_nil ?_
      intro _ hw'
      obtain ⟨q, hw''⟩ := hw'
      subst hw''
      go_wp2_with fail
      go_ret2
      exact ⟨rfl, (HF.out.trans (F6.out.trans q.fr (fun _ _ e => e)) (fun _ _ e => e)).below (fun _ _ e => e)⟩
    · have hr' : risB ns = false := by simpa using hr
      rw [hr'] at CI
      obtain ⟨e1, e2⟩ := rg_no1 ns a N (.inr hr')
      rw [e1, e2]
      clear hr hr' hrt e1 e2 hpl CF HSE HLI
      go_enter Tryz.func38, Tryz.ntmps38
      rw [show Op.load 26 (.tmp 3) = Op.load T33 (.tmp 3) by rw [hT33]]
      clear hT33 hT32
      go_wp2_with (first
        | (go_at_call 27; refine (CI.out w2 F2).mono ?_; rintro e w3 ⟨rfl, b3⟩
           have F3 := F2.then_below b3)
        | (go_at_call 55; refine (CR.out _).mono ?_; rintro e w2 ⟨rfl, b2⟩
           have F2 := (Fr.refl (fun _ => False) w1).then_below b2
           have c2 := F2.cell HC0.out (fun e => e)
           rw [HLn.out] at c2))
      go_ret2
      exact ⟨rfl, (HF.out.trans F3 (fun _ _ e => e)).below (fun _ _ e => e)⟩
  · have hr' : rightB a N = false := by simpa using hrt
    rw [hr'] at CR
    obtain ⟨e1, e2⟩ := rg_no1 ns a N (.inl hr')
    rw [e1, e2]
    clear hrt hr' e1 e2 hpl CF CI HSE HLI
    go_enter Tryz.func38, Tryz.ntmps38
    rw [show Op.load 26 (.tmp 3) = Op.load T33 (.tmp 3) by rw [hT33]]
    clear hT33 hT32
    go_wp2_with (go_at_call 55; refine (CR.out _).mono ?_; rintro e w2 ⟨rfl, b2⟩
                 have F2 := (Fr.refl (fun _ => False) w1).then_below b2)
    go_ret2
    exact ⟨rfl, (HF.out.trans F2 (fun _ _ e => e)).below (fun _ _ e => e)⟩
end Go.Proofs.YtgbhdjncccmabaaGreatDoor

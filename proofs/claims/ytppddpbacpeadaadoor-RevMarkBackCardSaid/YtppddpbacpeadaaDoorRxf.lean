/- What is proved: bytes as a tag, by the program, with its deferred closure. Conditions: the bytes' cells are there, not too many. -/
import Derived.Test.YtppddpbacpeadaaDoorRxe
namespace Go.Proofs.YtppddpbacpeadaaDoor
open Go.RowKit Go.Sort Go.Shelf
open Ids (idC dgt big idC_size idC_get idC_one cellD zero32 size32 dgt_lt hexB)
set_option linter.unusedVariables false

theorem zeroM_build (w : World) : (Instr.build 51 #[]).run Tryd.prog w = .ok (.agg zeroM) w := by kernel_rfl
theorem zeroM_size : zeroM.size = 36 := rfl
theorem zeroM_one : zeroM.all (·.oneCell') = true := by kernel_rfl
set_option maxHeartbeats 1600000 in
set_option maxRecDepth 100000 in
theorem catchM_panicking (gc ge : Nat) (hne : gc ≠ ge) (u : TypeId) (pv : Value) (older : List PanicEntry) (cs : Array Value) (hcs : cs.size = 36) (x : Int) (w : World) (hC : Whole w gc 51 cs) (hE : Whole w ge 28 #[.int .i64 x]) :
    CallsD Tryd.prog 44 #[.pointer (some ⟨gc, 0, none⟩), .pointer (some ⟨ge, 0, none⟩)] (.panicking ({ v := .iface u pv, recovered := false } :: older)) w fun e u' w' =>
      e = .returned (.tuple #[]) ∧ u' = .panicking ({ v := .iface u pv, recovered := true } :: older) ∧ Whole w' gc 51 zeroM ∧ Whole w' ge 28 #[.int .i64 12] ∧ Fr (fun k => k = gc ∨ k = ge) w w' := by
  have HC := Lib.hid hC
  have HE := Lib.hid hE
  have HB := Lib.hid zeroM_build
  clear hC hE
  refine callsD_of_wpS Tryd.func44 rfl fun c₀ cs' hu => ?_
  apply wpS_seq
  apply wpS_region
  simp [wpOpsS, go_sem, recoverD, hu, Tryd.ntmps44, Exit.thenS]
  refine wpS_cond (t := true) (by simp [Act.eval, Array.replicate]) ?_
  simp only [if_true]
  apply wpS_of_wp
  rw [show (#[Value.pointer (some ⟨gc, 0, none⟩), Value.pointer (some ⟨ge, 0, none⟩)] ++ ((Array.replicate 3 undef).setIfInBounds 0 (Value.iface u pv)).setIfInBounds 1 (Value.bool true)) = [Value.pointer (some ⟨gc, 0, none⟩), Value.pointer (some ⟨ge, 0, none⟩), Value.iface u pv, Value.bool true, undef].toArray from rfl]
  go_wp2_with (first
    | (refine wpList_build_to rfl 51 _ rfl #[] (by first | rfl | simp [Act.eval]) (.agg zeroM) (HB.out _) ?_)
    | (refine wpList_store_at rfl 51 _ _ rfl gc 0 51 cs zeroM rfl rfl HC.out (by rw [hcs]; decide) size36m zeroM_one ?_
       intro w2 hw2 hf2
       rw [laidAt_all _ _ (by rw [hcs]; rfl)] at hw2
       have HE2 := Lib.hid (HE.out.fr hf2 (fun e => hne e.symm))
       have c2 := HE2.out.cell 0
       have z2 := HE2.out.frozen 0
       rw [show (#[Value.int IntKind.i64 x])[0]? = some (Value.int IntKind.i64 x) from rfl] at c2))
  have f3 : Fr (fun k => k = ge) w2 (w2.setCell ⟨ge, 0, none⟩ (.int .i64 12)) := Fr.setCell (S := fun k => k = ge) (p := ⟨ge, 0, none⟩) (Fr.refl _ w2) (fun _ => rfl) _
  refine ⟨rfl, _, rfl, .tuple #[], by simp [results, Tryd.results44], rfl, rfl, hw2.fr f3 hne, HE2.out.set 0 (.int .i64 12), (hf2.mono (fun _ _ e => .inl e) : Fr (fun k => k = gc ∨ k = ge) w w2).trans f3 (fun _ _ e => .inr e)⟩
theorem catchM_idle (p q : Addr) (w : World) :
    CallsD Tryd.prog 44 #[.pointer (some p), .pointer (some q)] .returning w fun e u' w' => e = .returned (.tuple #[]) ∧ u' = .returning ∧ w' = w := by
  refine callsD_of_wpS Tryd.func44 rfl fun c₀ cs hu => ?_
  apply wpS_seq
  apply wpS_region
  simp [wpOpsS, go_sem, recoverD, hu, Tryd.ntmps44, Exit.thenS]
  refine wpS_cond (t := false) (by simp [Act.eval, Array.replicate]) ?_
  simp only [Bool.false_eq_true, if_false]
  refine wpS_of_wp (wp_skip ?_)
  cases c₀
  simp_all [bodyPostS, results, Tryd.results44]

def zeroQ : MarkP := ⟨0, 0, [], 0, []⟩
/-- What bytes tell: a tag, and an error's number. -/
def getK (G : Option MarkP) : MarkP × Int := match G with
  | none => (zeroQ, 12)
  | some R => if mchkE R.k R.a R.n R.t = 0 then (R, 0) else (zeroQ, mchkE R.k R.a R.n R.t)
def getM (s : List UInt8) : MarkP × Int := getK (markL s)
theorem getK_ok {R : MarkP} (h : mchkE R.k R.a R.n R.t = 0) : getK (some R) = (R, 0) := by rw [getK, if_pos h]
theorem getK_bad {R : MarkP} (h : mchkE R.k R.a R.n R.t ≠ 0) : getK (some R) = (zeroQ, mchkE R.k R.a R.n R.t) := by rw [getK, if_neg h]
theorem markL_props {s : List UInt8} {R : MarkP} (h : markL s = some R) : R.k < 10 ∧ R.a.length ≤ s.length ∧ R.t.length ≤ s.length ∧ R.n < 1000000000000000 ∧ R.T < big := by
  unfold markL at h
  split at h
  · cases h
  · rename_i T r0 hi
    have h0 := idL_len hi
    unfold markL1 at h
    split at h
    · cases h
    · rename_i k r1 hp
      have h1 := digL_len hp
      unfold markL2 at h
      split at h
      · cases h
      · rename_i a r2 ha
        have h2 := takeL_len ha
        unfold markL3 at h
        split at h
        · cases h
        · rename_i n r3 hn
          have h3 := numL_len hn
          unfold markL4 at h
          split at h
          · cases h
          · rename_i t ht
            injection h with h
            subst h
            have h4 : t.length ≤ r3.length := by
              unfold textL at ht
              split at ht
              · injection ht with ht; subst ht; rw [List.length_drop]; omega
              · cases ht
            exact ⟨h1.2.1, by show a.length ≤ s.length; omega, by show t.length ≤ s.length; omega, h3.2, h0.2⟩

set_option maxHeartbeats 6400000 in
set_option maxRecDepth 100000 in
theorem VGetMark_any (A : Option Addr) (c : Nat) (l : List UInt8) (hl : l.length ≤ 100000) (w : World) (h : Lies w A (bytesV l)) :
    Calls Tryd.prog 24 #[.slice A l.length c] w fun e w' => e = .returned (.tuple #[.agg (markC (getM l).1.T (getM l).1.k (getM l).1.a (getM l).1.n (getM l).1.t), .int .i64 (getM l).2]) ∧ Fr (fun _ => False) w w' := by
  have hmf : ∀ (fn : Fn) (first cap : Array Value) (w : World), (Instr.makeFunc fn first cap).run Tryd.prog w = .ok (.func fn first cap) w := fun _ _ _ _ => rfl
  obtain ⟨w1, hw1⟩ : ∃ w1, w.alloc (.cells zeroM 51) = w1 := ⟨_, rfl⟩
  obtain ⟨w2, hw2⟩ : ∃ w2, w1.alloc (.cells #[.int .i64 0] 28) = w2 := ⟨_, rfl⟩
  obtain ⟨w3, hw3⟩ : ∃ w3, w2.alloc (.cells #[.string (strB l)] 70) = w3 := ⟨_, rfl⟩
  have hF1 : Fr (fun _ => False) w w1 := by subst hw1; exact (Fr.refl _ w).alloc _
  have hF2 : Fr (fun _ => False) w1 w2 := by subst hw2; exact (Fr.refl _ w1).alloc _
  have hF3 : Fr (fun _ => False) w2 w3 := by subst hw3; exact (Fr.refl _ w2).alloc _
  have hsz1 : w1.heap.size = w.heap.size + 1 := by subst hw1; exact alloc_size _ _
  have hsz2 : w2.heap.size = w.heap.size + 2 := by subst hw2; rw [alloc_size]; omega
  have HSZ : Hid (w3.heap.size = w.heap.size + 3) := Lib.hid (by subst hw3; rw [alloc_size]; omega)
  have hC : Whole w1 w.heap.size 51 zeroM := by subst hw1; exact Whole.new w _ _
  have hE : Whole w2 w1.heap.size 28 #[.int .i64 0] := by subst hw2; exact Whole.new w1 _ _
  have hL : LinesAt w3 w2.heap.size l := by subst hw3; exact Whole.new w2 _ _
  have HC3 := Lib.hid ((hC.fr hF2 (fun e => e)).fr hF3 (fun e => e))
  have HE3 := Lib.hid (hE.fr hF3 (fun e => e))
  have HF := Lib.hid ((hF1.trans hF2 (fun _ _ e => e)).trans hF3 (fun _ _ e => e))
  have HTR := Lib.hid (VtakeMark_any w2.heap.size l hl w3 hL)
  have cv := run_convert_lies 27 9 5 Tryd.underlying27 Tryd.underlying5 Tryd.underlying9 (h.fr (hF1.trans hF2 (fun _ _ e => e)) (fun _ _ e => e)) c
  rw [hsz1] at HE3
  rw [hsz2] at HTR
  rw [getM]
  obtain ⟨S, hS⟩ : ∃ S, strB l = S := ⟨_, rfl⟩
  obtain ⟨n, hn⟩ : ∃ n, l.length = n := ⟨_, rfl⟩
  rw [hS] at cv hw3
  rw [hn] at cv ⊢
  unfold zeroM at hw1
  simp [List.replicate] at hw1
  clear hS hF1 hF2 hF3 hC hE hL h
  cases hG : markL l with
  | none =>
    rw [hG] at HTR
    clear hG
    go_enter_defers Tryd.func24, Tryd.ntmps24
    go_wp2_with (go_at_call 45; refine HTR.out.mono ?_; rintro e w4 ⟨rfl, f4⟩)
    refine leaves_cons (f := 44) (args := #[.pointer (some ⟨w.heap.size, 0, none⟩), .pointer (some ⟨w.heap.size + 1, 0, none⟩)]) (by simp) (by simp [go_sem]) ?_
    refine (catchM_panicking w.heap.size (w.heap.size + 1) (by omega) 28 _ [] zeroM rfl 0 w4 (HC3.out.fr f4 (fun e => by omega)) (HE3.out.fr f4 (fun e => by omega))).mono ?_
    rintro e u' w5 ⟨rfl, rfl, hc5, he5, f5⟩
    show Leaves _ _ _ _ [] FrameMode.returning _
    refine ⟨.tuple #[.agg zeroM, .int .i64 12], results_cells rfl _ _ _ _ _ _ _ _ _ _ rfl hc5 rfl he5 Tryd.underlying51 rfl size36m (load_errno he5), by rw [zeroM_eq]; rfl, ?_⟩
    exact (HF.out.trans f4 (fun i hi e => by omega)).trans f5 (fun i hi e => by rcases e with e | e <;> omega)
  | some R =>
    rw [hG] at HTR
    have hpr := markL_props hG
    clear hG
    have HCK := Lib.hid (fun (w5 : World) => VCheckMark_any R.T R.k R.a R.n R.t (by omega) (by omega) w5)
    have HG0 := Lib.hid (fun h => getK_ok (R := R) h)
    have HG1 := Lib.hid (fun h => getK_bad (R := R) h)
    have hrs := markC_size R.T R.k R.a R.n R.t
    have hro := markC_one R.T R.k R.a R.n R.t
    have HBZ := Lib.hid zeroM_build
    obtain ⟨r, hr⟩ : ∃ r, mchkE R.k R.a R.n R.t = r := ⟨_, rfl⟩
    rw [hr] at HCK HG0 HG1
    have HTR2 : Hid (Calls Tryd.prog 45 #[.pointer (some ⟨w.heap.size + 2, 0, none⟩)] w3 fun e w' => e = .returned (.agg (markC R.T R.k R.a R.n R.t)) ∧ Fr (fun k => k = w.heap.size + 2) w3 w') := HTR
    clear HTR
    obtain ⟨cr, hcr⟩ : ∃ c, markC R.T R.k R.a R.n R.t = c := ⟨_, rfl⟩
    rw [hcr] at hrs hro HCK HTR2
    have HCR := Lib.hid hcr
    clear hr hpr hcr
    by_cases hr0 : r = 0
    · subst hr0
      go_enter_defers Tryd.func24, Tryd.ntmps24
      go_wp2_with (first
        | (go_at_call 45; refine HTR2.out.mono ?_; rintro e w4 ⟨rfl, f4⟩
           have C4 := Lib.hid (HC3.out.fr f4 (fun e => by omega))
           have E4 := Lib.hid (HE3.out.fr f4 (fun e => by omega))
           have F4 := Lib.hid (HF.out.trans f4 (fun i hi e => by omega))
           clear f4)
        | (refine wpList_store_at rfl 51 _ _ rfl w.heap.size 0 51 zeroM cr rfl rfl C4.out (by rw [hrs]; decide) (by rw [hrs]; exact size36m) hro ?_
           intro w5 hw5 hf5
           rw [laidAt_all _ _ (by rw [hrs]; rfl)] at hw5
           have C5 := Lib.hid hw5
           have E5 := Lib.hid (E4.out.fr hf5 (fun e => by omega))
           have F5 := Lib.hid (F4.out.trans hf5 (fun i hi e => by omega))
           clear hw5 hf5)
        | (refine wpList_load_row rfl 51 _ rfl _ rfl 51 _ _ _ C5.out Tryd.underlying51 rfl (by rw [hrs]; exact size36m) ?_)
        | (go_at_call 26; refine (HCK.out w5).mono ?_; rintro e w6 ⟨rfl, b6⟩
           have C6 := Lib.hid (C5.out.fr (Fr.of_below (S := fun _ => False) b6) (fun e => e))
           have E6 := Lib.hid (E5.out.fr (Fr.of_below (S := fun _ => False) b6) (fun e => e))
           have c6 := E6.out.cell 0
           rw [show (#[Value.int IntKind.i64 0])[0]? = some (Value.int IntKind.i64 0) from rfl] at c6
           have z6 := E6.out.frozen 0
           have F6 := Lib.hid (F5.out.then_below b6)
           clear b6))
      obtain ⟨wb, hwb⟩ : ∃ wb, w6.setCell ⟨w.heap.size + 1, 0, none⟩ (.int .i64 0) = wb := ⟨_, rfl⟩
      have f7 : Fr (fun k => k = w.heap.size + 1) w6 wb := by rw [← hwb]; exact Fr.setCell (S := fun k => k = w.heap.size + 1) (p := ⟨w.heap.size + 1, 0, none⟩) (Fr.refl _ w6) (fun _ => rfl) _
      have HSB : Hid (Whole wb.drew w.heap.size 51 cr ∧ Whole wb.drew (w.heap.size + 1) 28 #[.int .i64 0] ∧ Fr (fun k => k = w.heap.size ∨ k = w.heap.size + 1) wb wb.drew) := Lib.hid ⟨C6.out.fr f7.drew (fun e => by omega), by have := E6.out.set 0 (.int .i64 0); rw [hwb] at this; exact this, (Fr.refl _ wb).drew⟩
      have FB := Lib.hid (F6.out.trans f7 (fun i hi e => by omega))
      rw [hwb]
      have hfs := hrs
      have hfo := hro
      clear hwb f7
      have HEND : Hid (∀ w9, Whole w9 w.heap.size 51 cr ∧ Whole w9 (w.heap.size + 1) 28 #[.int .i64 0] ∧ Fr (fun k => k = w.heap.size ∨ k = w.heap.size + 1) wb w9 → (Ending.returned (.tuple #[.agg cr, .int .i64 0]) : Ending) = Ending.returned (.tuple #[.agg (markC (getK (some R)).1.T (getK (some R)).1.k (getK (some R)).1.a (getK (some R)).1.n (getK (some R)).1.t), .int .i64 (getK (some R)).2]) ∧ Fr (fun _ => False) w w9) := Lib.hid (fun w9 hS => by
        rw [HG0.out (by first | rfl | trivial)]
        exact ⟨by rw [← HCR.out], FB.out.trans hS.2.2 (fun i hi e => by rcases e with e | e <;> omega)⟩)
      (
        refine wp_region_held (S := fun w' => Whole w' w.heap.size 51 cr ∧ Whole w' (w.heap.size + 1) 28 #[.int .i64 0] ∧ Fr (fun k => k = w.heap.size ∨ k = w.heap.size + 1) wb w') (by kernel_rfl) ?_
        (
          refine wpAnyH_all (rs := [0, 1]) (by kernel_rfl) (by simp) ?_
          intro i hi
          simp only [List.mem_cons, List.not_mem_nil, or_false] at hi
          rcases hi with hi | hi <;> subst hi)
        · (
          refine wpOp_step rfl (fun K hK => ?_)
          rw [if_pos (by kernel_rfl)]
          refine wp_load_row 51 (.tmp 2) rfl w.heap.size (by kernel_rfl) 51 cr _ _ HSB.out.1 Tryd.underlying51 rfl (by rw [hfs]; exact size36m) ?_
          refine hK _ _ ⟨HSB.out, ?_⟩
          clear hK K)
          (
            refine wpAnyH_all (rs := [1, 2]) (by kernel_rfl) (by simp) ?_
            intro i hi
            simp only [List.mem_cons, List.not_mem_nil, or_false] at hi
            rcases hi with hi | hi <;> subst hi)
          · (
            refine wpOp_step rfl (fun K hK => ?_)
            have cz := HSB.out.2.1.cell 0
            rw [show (#[Value.int IntKind.i64 0])[0]? = some (Value.int IntKind.i64 0) from rfl] at cz
            go_simp
            refine hK _ _ ⟨HSB.out, ?_⟩
            clear hK K cz)
            (
              refine wpAnyH_all (rs := [2]) (by kernel_rfl) (by simp) ?_
              intro i hi
              simp only [List.mem_cons, List.not_mem_nil, or_false] at hi
              subst hi)
            (
              refine wpOp_step rfl (fun K hK => ?_)
              rw [if_pos (by kernel_rfl)]
              refine wp_store_at 51 (.tmp 2) (.tmp 15) rfl w.heap.size 0 51 cr cr (by kernel_rfl) (by kernel_rfl) HSB.out.1 (by omega) (by rw [hfs]; exact size36m) hfo ?_
              intro w7 hw7 hf7
              rw [laidAt_all _ _ rfl] at hw7
              have HS7 := Lib.hid (show Whole w7 w.heap.size 51 cr ∧ Whole w7 (w.heap.size + 1) 28 #[.int .i64 0] ∧ Fr (fun k => k = w.heap.size ∨ k = w.heap.size + 1) wb w7 from ⟨hw7, HSB.out.2.1.fr hf7 (fun e => by omega), HSB.out.2.2.trans hf7 (fun _ _ e => .inl e)⟩)
              clear hf7 hw7
              go_simp
              refine hK _ _ ⟨HS7.out, ?_⟩
              clear hK K)
            (
              refine wpAnyH_all (rs := [3]) (by kernel_rfl) (by simp) ?_
              intro i hi
              simp only [List.mem_cons, List.not_mem_nil, or_false] at hi
              subst hi)
            (
              refine wpOp_step rfl (fun K hK => ?_)
              have c7 := HS7.out.2.1.cell 0
              rw [show (#[Value.int IntKind.i64 0])[0]? = some (Value.int IntKind.i64 0) from rfl] at c7
              have z7 := HS7.out.2.1.frozen 0
              have f8 : Fr (fun k => k = w.heap.size + 1) w7 (w7.setCell ⟨w.heap.size + 1, 0, none⟩ (.int .i64 0)) := Fr.setCell (S := fun k => k = w.heap.size + 1) (p := ⟨w.heap.size + 1, 0, none⟩) (Fr.refl _ w7) (fun _ => rfl) _
              have HS8 := Lib.hid (show Whole (w7.setCell ⟨w.heap.size + 1, 0, none⟩ (.int .i64 0)) w.heap.size 51 cr ∧ Whole (w7.setCell ⟨w.heap.size + 1, 0, none⟩ (.int .i64 0)) (w.heap.size + 1) 28 #[.int .i64 0] ∧ Fr (fun k => k = w.heap.size ∨ k = w.heap.size + 1) wb (w7.setCell ⟨w.heap.size + 1, 0, none⟩ (.int .i64 0)) from ⟨HS7.out.1.fr f8 (fun e => by omega), HS7.out.2.1.set 0 (.int .i64 0), HS7.out.2.2.trans f8 (fun _ _ e => .inr e)⟩)
              clear f8
              go_simp
              refine hK _ _ ⟨HS8.out, ?_⟩
              clear hK K
              refine wpAnyH_done (by kernel_rfl) ?_ _
              go_wp2_with fail
              refine leaves_cons (f := 44) (args := #[.pointer (some ⟨w.heap.size, 0, none⟩), .pointer (some ⟨w.heap.size + 1, 0, none⟩)]) (by simp) (by simp [go_sem]) ?_
              refine (catchM_idle ⟨w.heap.size, 0, none⟩ ⟨w.heap.size + 1, 0, none⟩ _).mono ?_
              rintro e u' w9 ⟨rfl, rfl, rfl⟩
              show Leaves _ _ _ _ [] FrameMode.returning _)
            exact ⟨_, results_cells rfl _ _ _ _ _ _ _ _ _ _ rfl HS8.out.1 rfl HS8.out.2.1 Tryd.underlying51 rfl (by rw [hfs]; exact size36m) (load_errno HS8.out.2.1), HEND.out _ HS8.out⟩
          · (
            refine wpOp_step rfl (fun K hK => ?_)
            rw [if_pos (by kernel_rfl)]
            refine wp_store_at 51 (.tmp 2) (.tmp 15) rfl w.heap.size 0 51 cr cr (by kernel_rfl) (by kernel_rfl) HSB.out.1 (by omega) (by rw [hfs]; exact size36m) hfo ?_
            intro w7 hw7 hf7
            rw [laidAt_all _ _ rfl] at hw7
            have HS7 := Lib.hid (show Whole w7 w.heap.size 51 cr ∧ Whole w7 (w.heap.size + 1) 28 #[.int .i64 0] ∧ Fr (fun k => k = w.heap.size ∨ k = w.heap.size + 1) wb w7 from ⟨hw7, HSB.out.2.1.fr hf7 (fun e => by omega), HSB.out.2.2.trans hf7 (fun _ _ e => .inl e)⟩)
            clear hf7 hw7
            go_simp
            refine hK _ _ ⟨HS7.out, ?_⟩
            clear hK K)
            (
              refine wpAnyH_all (rs := [1]) (by kernel_rfl) (by simp) ?_
              intro i hi
              simp only [List.mem_cons, List.not_mem_nil, or_false] at hi
              subst hi)
            (
              refine wpOp_step rfl (fun K hK => ?_)
              have cz := HS7.out.2.1.cell 0
              rw [show (#[Value.int IntKind.i64 0])[0]? = some (Value.int IntKind.i64 0) from rfl] at cz
              go_simp
              refine hK _ _ ⟨HS7.out, ?_⟩
              clear hK K cz)
            (
              refine wpAnyH_all (rs := [3]) (by kernel_rfl) (by simp) ?_
              intro i hi
              simp only [List.mem_cons, List.not_mem_nil, or_false] at hi
              subst hi)
            (
              refine wpOp_step rfl (fun K hK => ?_)
              have c7 := HS7.out.2.1.cell 0
              rw [show (#[Value.int IntKind.i64 0])[0]? = some (Value.int IntKind.i64 0) from rfl] at c7
              have z7 := HS7.out.2.1.frozen 0
              have f8 : Fr (fun k => k = w.heap.size + 1) w7 (w7.setCell ⟨w.heap.size + 1, 0, none⟩ (.int .i64 0)) := Fr.setCell (S := fun k => k = w.heap.size + 1) (p := ⟨w.heap.size + 1, 0, none⟩) (Fr.refl _ w7) (fun _ => rfl) _
              have HS8 := Lib.hid (show Whole (w7.setCell ⟨w.heap.size + 1, 0, none⟩ (.int .i64 0)) w.heap.size 51 cr ∧ Whole (w7.setCell ⟨w.heap.size + 1, 0, none⟩ (.int .i64 0)) (w.heap.size + 1) 28 #[.int .i64 0] ∧ Fr (fun k => k = w.heap.size ∨ k = w.heap.size + 1) wb (w7.setCell ⟨w.heap.size + 1, 0, none⟩ (.int .i64 0)) from ⟨HS7.out.1.fr f8 (fun e => by omega), HS7.out.2.1.set 0 (.int .i64 0), HS7.out.2.2.trans f8 (fun _ _ e => .inr e)⟩)
              clear f8
              go_simp
              refine hK _ _ ⟨HS8.out, ?_⟩
              clear hK K
              refine wpAnyH_done (by kernel_rfl) ?_ _
              go_wp2_with fail
              refine leaves_cons (f := 44) (args := #[.pointer (some ⟨w.heap.size, 0, none⟩), .pointer (some ⟨w.heap.size + 1, 0, none⟩)]) (by simp) (by simp [go_sem]) ?_
              refine (catchM_idle ⟨w.heap.size, 0, none⟩ ⟨w.heap.size + 1, 0, none⟩ _).mono ?_
              rintro e u' w9 ⟨rfl, rfl, rfl⟩
              show Leaves _ _ _ _ [] FrameMode.returning _)
            exact ⟨_, results_cells rfl _ _ _ _ _ _ _ _ _ _ rfl HS8.out.1 rfl HS8.out.2.1 Tryd.underlying51 rfl (by rw [hfs]; exact size36m) (load_errno HS8.out.2.1), HEND.out _ HS8.out⟩
        · (
          refine wpOp_step rfl (fun K hK => ?_)
          have cz := HSB.out.2.1.cell 0
          rw [show (#[Value.int IntKind.i64 0])[0]? = some (Value.int IntKind.i64 0) from rfl] at cz
          go_simp
          refine hK _ _ ⟨HSB.out, ?_⟩
          clear hK K cz)
          (
            refine wpAnyH_all (rs := [0]) (by kernel_rfl) (by simp) ?_
            intro i hi
            simp only [List.mem_cons, List.not_mem_nil, or_false] at hi
            subst hi)
          (
            refine wpOp_step rfl (fun K hK => ?_)
            rw [if_pos (by kernel_rfl)]
            refine wp_load_row 51 (.tmp 2) rfl w.heap.size (by kernel_rfl) 51 cr _ _ HSB.out.1 Tryd.underlying51 rfl (by rw [hfs]; exact size36m) ?_
            refine hK _ _ ⟨HSB.out, ?_⟩
            clear hK K)
          (
            refine wpAnyH_all (rs := [2]) (by kernel_rfl) (by simp) ?_
            intro i hi
            simp only [List.mem_cons, List.not_mem_nil, or_false] at hi
            subst hi)
          (
            refine wpOp_step rfl (fun K hK => ?_)
            rw [if_pos (by kernel_rfl)]
            refine wp_store_at 51 (.tmp 2) (.tmp 15) rfl w.heap.size 0 51 cr cr (by kernel_rfl) (by kernel_rfl) HSB.out.1 (by omega) (by rw [hfs]; exact size36m) hfo ?_
            intro w7 hw7 hf7
            rw [laidAt_all _ _ rfl] at hw7
            have HS7 := Lib.hid (show Whole w7 w.heap.size 51 cr ∧ Whole w7 (w.heap.size + 1) 28 #[.int .i64 0] ∧ Fr (fun k => k = w.heap.size ∨ k = w.heap.size + 1) wb w7 from ⟨hw7, HSB.out.2.1.fr hf7 (fun e => by omega), HSB.out.2.2.trans hf7 (fun _ _ e => .inl e)⟩)
            clear hf7 hw7
            go_simp
            refine hK _ _ ⟨HS7.out, ?_⟩
            clear hK K)
          (
            refine wpAnyH_all (rs := [3]) (by kernel_rfl) (by simp) ?_
            intro i hi
            simp only [List.mem_cons, List.not_mem_nil, or_false] at hi
            subst hi)
          (
            refine wpOp_step rfl (fun K hK => ?_)
            have c7 := HS7.out.2.1.cell 0
            rw [show (#[Value.int IntKind.i64 0])[0]? = some (Value.int IntKind.i64 0) from rfl] at c7
            have z7 := HS7.out.2.1.frozen 0
            have f8 : Fr (fun k => k = w.heap.size + 1) w7 (w7.setCell ⟨w.heap.size + 1, 0, none⟩ (.int .i64 0)) := Fr.setCell (S := fun k => k = w.heap.size + 1) (p := ⟨w.heap.size + 1, 0, none⟩) (Fr.refl _ w7) (fun _ => rfl) _
            have HS8 := Lib.hid (show Whole (w7.setCell ⟨w.heap.size + 1, 0, none⟩ (.int .i64 0)) w.heap.size 51 cr ∧ Whole (w7.setCell ⟨w.heap.size + 1, 0, none⟩ (.int .i64 0)) (w.heap.size + 1) 28 #[.int .i64 0] ∧ Fr (fun k => k = w.heap.size ∨ k = w.heap.size + 1) wb (w7.setCell ⟨w.heap.size + 1, 0, none⟩ (.int .i64 0)) from ⟨HS7.out.1.fr f8 (fun e => by omega), HS7.out.2.1.set 0 (.int .i64 0), HS7.out.2.2.trans f8 (fun _ _ e => .inr e)⟩)
            clear f8
            go_simp
            refine hK _ _ ⟨HS8.out, ?_⟩
            clear hK K
            refine wpAnyH_done (by kernel_rfl) ?_ _
            go_wp2_with fail
            refine leaves_cons (f := 44) (args := #[.pointer (some ⟨w.heap.size, 0, none⟩), .pointer (some ⟨w.heap.size + 1, 0, none⟩)]) (by simp) (by simp [go_sem]) ?_
            refine (catchM_idle ⟨w.heap.size, 0, none⟩ ⟨w.heap.size + 1, 0, none⟩ _).mono ?_
            rintro e u' w9 ⟨rfl, rfl, rfl⟩
            show Leaves _ _ _ _ [] FrameMode.returning _)
          exact ⟨_, results_cells rfl _ _ _ _ _ _ _ _ _ _ rfl HS8.out.1 rfl HS8.out.2.1 Tryd.underlying51 rfl (by rw [hfs]; exact size36m) (load_errno HS8.out.2.1), HEND.out _ HS8.out⟩)
    · have hrz : (r == 0) = false := by simp [hr0]
      have HBad := Lib.hid (HG1.out hr0)
      go_enter_defers Tryd.func24, Tryd.ntmps24
      go_wp2_with (first
        | (go_at_call 45; refine HTR2.out.mono ?_; rintro e w4 ⟨rfl, f4⟩
           have C4 := Lib.hid (HC3.out.fr f4 (fun e => by omega))
           have E4 := Lib.hid (HE3.out.fr f4 (fun e => by omega))
           have F4 := Lib.hid (HF.out.trans f4 (fun i hi e => by omega))
           clear f4)
        | (refine wpList_build_to rfl 51 _ rfl #[] (by first | rfl | simp [Act.eval]) (.agg zeroM) (HBZ.out _) ?_)
        | (have _ := M7
           refine wpList_store_at rfl 51 _ _ rfl w.heap.size 0 51 cr zeroM rfl rfl K7.out.1 (by rw [hrs]; decide) size36m zeroM_one ?_
           intro w8 hw8 hf8
           rw [laidAt_all _ _ (by rw [hrs]; rfl)] at hw8
           have K8 := Lib.hid (show Whole w8 w.heap.size 51 zeroM ∧ Whole w8 (w.heap.size + 1) 28 #[.int .i64 r] ∧ Fr (fun _ => False) w w8 from ⟨hw8, K7.out.2.1.fr hf8 (fun e => by omega), K7.out.2.2.trans hf8 (fun i hi e => by omega)⟩)
           clear hw8 hf8)
        | (refine wpList_store_at rfl 51 _ _ rfl w.heap.size 0 51 zeroM cr rfl rfl C4.out (by rw [hrs]; decide) (by rw [hrs]; exact size36m) hro ?_
           intro w5 hw5 hf5
           rw [laidAt_all _ _ (by rw [hrs]; rfl)] at hw5
           have C5 := Lib.hid hw5
           have E5 := Lib.hid (E4.out.fr hf5 (fun e => by omega))
           have F5 := Lib.hid (F4.out.trans hf5 (fun i hi e => by omega))
           clear hw5 hf5)
        | (refine wpList_load_row rfl 51 _ rfl _ rfl 51 _ _ _ C5.out Tryd.underlying51 rfl (by rw [hrs]; exact size36m) ?_)
        | (go_at_call 26; refine (HCK.out w5).mono ?_; rintro e w6 ⟨rfl, b6⟩
           have C6 := Lib.hid (C5.out.fr (Fr.of_below (S := fun _ => False) b6) (fun e => e))
           have E6 := Lib.hid (E5.out.fr (Fr.of_below (S := fun _ => False) b6) (fun e => e))
           have c6 := E6.out.cell 0
           rw [show (#[Value.int IntKind.i64 0])[0]? = some (Value.int IntKind.i64 0) from rfl] at c6
           have z6 := E6.out.frozen 0
           have f7 : Fr (fun k => k = w.heap.size + 1) w6 (w6.setCell ⟨w.heap.size + 1, 0, none⟩ (.int .i64 r)) := Fr.setCell (S := fun k => k = w.heap.size + 1) (p := ⟨w.heap.size + 1, 0, none⟩) (Fr.refl _ w6) (fun _ => rfl) _
           have K7 := Lib.hid (show Whole (w6.setCell ⟨w.heap.size + 1, 0, none⟩ (.int .i64 r)) w.heap.size 51 cr ∧ Whole (w6.setCell ⟨w.heap.size + 1, 0, none⟩ (.int .i64 r)) (w.heap.size + 1) 28 #[.int .i64 r] ∧ Fr (fun _ => False) w (w6.setCell ⟨w.heap.size + 1, 0, none⟩ (.int .i64 r)) from ⟨C6.out.fr f7 (fun e => by omega), E6.out.set 0 (.int .i64 r), (F5.out.then_below b6).trans f7 (fun i hi e => by omega)⟩)
           have M7 := True.intro
           clear b6 f7))
      have HSB : Hid (Whole w8.drew w.heap.size 51 zeroM ∧ Whole w8.drew (w.heap.size + 1) 28 #[.int .i64 r] ∧ Fr (fun k => k = w.heap.size ∨ k = w.heap.size + 1) w8 w8.drew) := Lib.hid ⟨K8.out.1, K8.out.2.1, (Fr.refl _ w8).drew⟩
      obtain ⟨wb, hwb⟩ : ∃ wb, w8 = wb := ⟨_, rfl⟩
      rw [hwb] at HSB K8 ⊢
      have hfs := zeroM_size
      have hfo := zeroM_one
      clear hwb
      have HEND : Hid (∀ w9, Whole w9 w.heap.size 51 zeroM ∧ Whole w9 (w.heap.size + 1) 28 #[.int .i64 r] ∧ Fr (fun k => k = w.heap.size ∨ k = w.heap.size + 1) wb w9 → (Ending.returned (.tuple #[.agg zeroM, .int .i64 r]) : Ending) = Ending.returned (.tuple #[.agg (markC (getK (some R)).1.T (getK (some R)).1.k (getK (some R)).1.a (getK (some R)).1.n (getK (some R)).1.t), .int .i64 (getK (some R)).2]) ∧ Fr (fun _ => False) w w9) := Lib.hid (fun w9 hS => by
        rw [HBad.out]
        exact ⟨by rw [zeroM_eq]; rfl, K8.out.2.2.trans hS.2.2 (fun i hi e => by rcases e with e | e <;> omega)⟩)
      (
        refine wp_region_held (S := fun w' => Whole w' w.heap.size 51 zeroM ∧ Whole w' (w.heap.size + 1) 28 #[.int .i64 r] ∧ Fr (fun k => k = w.heap.size ∨ k = w.heap.size + 1) wb w') (by kernel_rfl) ?_
        (
          refine wpAnyH_all (rs := [0, 1]) (by kernel_rfl) (by simp) ?_
          intro i hi
          simp only [List.mem_cons, List.not_mem_nil, or_false] at hi
          rcases hi with hi | hi <;> subst hi)
        · (
          refine wpOp_step rfl (fun K hK => ?_)
          rw [if_pos (by kernel_rfl)]
          refine wp_load_row 51 (.tmp 2) rfl w.heap.size (by kernel_rfl) 51 zeroM _ _ HSB.out.1 Tryd.underlying51 rfl (by rw [hfs]; exact size36m) ?_
          refine hK _ _ ⟨HSB.out, ?_⟩
          clear hK K)
          (
            refine wpAnyH_all (rs := [1, 2]) (by kernel_rfl) (by simp) ?_
            intro i hi
            simp only [List.mem_cons, List.not_mem_nil, or_false] at hi
            rcases hi with hi | hi <;> subst hi)
          · (
            refine wpOp_step rfl (fun K hK => ?_)
            have cz := HSB.out.2.1.cell 0
            rw [show (#[Value.int IntKind.i64 r])[0]? = some (Value.int IntKind.i64 r) from rfl] at cz
            go_simp
            refine hK _ _ ⟨HSB.out, ?_⟩
            clear hK K cz)
            (
              refine wpAnyH_all (rs := [2]) (by kernel_rfl) (by simp) ?_
              intro i hi
              simp only [List.mem_cons, List.not_mem_nil, or_false] at hi
              subst hi)
            (
              refine wpOp_step rfl (fun K hK => ?_)
              rw [if_pos (by kernel_rfl)]
              refine wp_store_at 51 (.tmp 2) (.tmp 15) rfl w.heap.size 0 51 zeroM zeroM (by kernel_rfl) (by kernel_rfl) HSB.out.1 (by omega) (by rw [hfs]; exact size36m) hfo ?_
              intro w7 hw7 hf7
              rw [laidAt_all _ _ rfl] at hw7
              have HS7 := Lib.hid (show Whole w7 w.heap.size 51 zeroM ∧ Whole w7 (w.heap.size + 1) 28 #[.int .i64 r] ∧ Fr (fun k => k = w.heap.size ∨ k = w.heap.size + 1) wb w7 from ⟨hw7, HSB.out.2.1.fr hf7 (fun e => by omega), HSB.out.2.2.trans hf7 (fun _ _ e => .inl e)⟩)
              clear hf7 hw7
              go_simp
              refine hK _ _ ⟨HS7.out, ?_⟩
              clear hK K)
            (
              refine wpAnyH_all (rs := [3]) (by kernel_rfl) (by simp) ?_
              intro i hi
              simp only [List.mem_cons, List.not_mem_nil, or_false] at hi
              subst hi)
            (
              refine wpOp_step rfl (fun K hK => ?_)
              have c7 := HS7.out.2.1.cell 0
              rw [show (#[Value.int IntKind.i64 r])[0]? = some (Value.int IntKind.i64 r) from rfl] at c7
              have z7 := HS7.out.2.1.frozen 0
              have f8 : Fr (fun k => k = w.heap.size + 1) w7 (w7.setCell ⟨w.heap.size + 1, 0, none⟩ (.int .i64 r)) := Fr.setCell (S := fun k => k = w.heap.size + 1) (p := ⟨w.heap.size + 1, 0, none⟩) (Fr.refl _ w7) (fun _ => rfl) _
              have HS8 := Lib.hid (show Whole (w7.setCell ⟨w.heap.size + 1, 0, none⟩ (.int .i64 r)) w.heap.size 51 zeroM ∧ Whole (w7.setCell ⟨w.heap.size + 1, 0, none⟩ (.int .i64 r)) (w.heap.size + 1) 28 #[.int .i64 r] ∧ Fr (fun k => k = w.heap.size ∨ k = w.heap.size + 1) wb (w7.setCell ⟨w.heap.size + 1, 0, none⟩ (.int .i64 r)) from ⟨HS7.out.1.fr f8 (fun e => by omega), HS7.out.2.1.set 0 (.int .i64 r), HS7.out.2.2.trans f8 (fun _ _ e => .inr e)⟩)
              clear f8
              go_simp
              refine hK _ _ ⟨HS8.out, ?_⟩
              clear hK K
              refine wpAnyH_done (by kernel_rfl) ?_ _
              go_wp2_with fail
              refine leaves_cons (f := 44) (args := #[.pointer (some ⟨w.heap.size, 0, none⟩), .pointer (some ⟨w.heap.size + 1, 0, none⟩)]) (by simp) (by simp [go_sem]) ?_
              refine (catchM_idle ⟨w.heap.size, 0, none⟩ ⟨w.heap.size + 1, 0, none⟩ _).mono ?_
              rintro e u' w9 ⟨rfl, rfl, rfl⟩
              show Leaves _ _ _ _ [] FrameMode.returning _)
            exact ⟨_, results_cells rfl _ _ _ _ _ _ _ _ _ _ rfl HS8.out.1 rfl HS8.out.2.1 Tryd.underlying51 rfl (by rw [hfs]; exact size36m) (load_errno HS8.out.2.1), HEND.out _ HS8.out⟩
          · (
            refine wpOp_step rfl (fun K hK => ?_)
            rw [if_pos (by kernel_rfl)]
            refine wp_store_at 51 (.tmp 2) (.tmp 15) rfl w.heap.size 0 51 zeroM zeroM (by kernel_rfl) (by kernel_rfl) HSB.out.1 (by omega) (by rw [hfs]; exact size36m) hfo ?_
            intro w7 hw7 hf7
            rw [laidAt_all _ _ rfl] at hw7
            have HS7 := Lib.hid (show Whole w7 w.heap.size 51 zeroM ∧ Whole w7 (w.heap.size + 1) 28 #[.int .i64 r] ∧ Fr (fun k => k = w.heap.size ∨ k = w.heap.size + 1) wb w7 from ⟨hw7, HSB.out.2.1.fr hf7 (fun e => by omega), HSB.out.2.2.trans hf7 (fun _ _ e => .inl e)⟩)
            clear hf7 hw7
            go_simp
            refine hK _ _ ⟨HS7.out, ?_⟩
            clear hK K)
            (
              refine wpAnyH_all (rs := [1]) (by kernel_rfl) (by simp) ?_
              intro i hi
              simp only [List.mem_cons, List.not_mem_nil, or_false] at hi
              subst hi)
            (
              refine wpOp_step rfl (fun K hK => ?_)
              have cz := HS7.out.2.1.cell 0
              rw [show (#[Value.int IntKind.i64 r])[0]? = some (Value.int IntKind.i64 r) from rfl] at cz
              go_simp
              refine hK _ _ ⟨HS7.out, ?_⟩
              clear hK K cz)
            (
              refine wpAnyH_all (rs := [3]) (by kernel_rfl) (by simp) ?_
              intro i hi
              simp only [List.mem_cons, List.not_mem_nil, or_false] at hi
              subst hi)
            (
              refine wpOp_step rfl (fun K hK => ?_)
              have c7 := HS7.out.2.1.cell 0
              rw [show (#[Value.int IntKind.i64 r])[0]? = some (Value.int IntKind.i64 r) from rfl] at c7
              have z7 := HS7.out.2.1.frozen 0
              have f8 : Fr (fun k => k = w.heap.size + 1) w7 (w7.setCell ⟨w.heap.size + 1, 0, none⟩ (.int .i64 r)) := Fr.setCell (S := fun k => k = w.heap.size + 1) (p := ⟨w.heap.size + 1, 0, none⟩) (Fr.refl _ w7) (fun _ => rfl) _
              have HS8 := Lib.hid (show Whole (w7.setCell ⟨w.heap.size + 1, 0, none⟩ (.int .i64 r)) w.heap.size 51 zeroM ∧ Whole (w7.setCell ⟨w.heap.size + 1, 0, none⟩ (.int .i64 r)) (w.heap.size + 1) 28 #[.int .i64 r] ∧ Fr (fun k => k = w.heap.size ∨ k = w.heap.size + 1) wb (w7.setCell ⟨w.heap.size + 1, 0, none⟩ (.int .i64 r)) from ⟨HS7.out.1.fr f8 (fun e => by omega), HS7.out.2.1.set 0 (.int .i64 r), HS7.out.2.2.trans f8 (fun _ _ e => .inr e)⟩)
              clear f8
              go_simp
              refine hK _ _ ⟨HS8.out, ?_⟩
              clear hK K
              refine wpAnyH_done (by kernel_rfl) ?_ _
              go_wp2_with fail
              refine leaves_cons (f := 44) (args := #[.pointer (some ⟨w.heap.size, 0, none⟩), .pointer (some ⟨w.heap.size + 1, 0, none⟩)]) (by simp) (by simp [go_sem]) ?_
              refine (catchM_idle ⟨w.heap.size, 0, none⟩ ⟨w.heap.size + 1, 0, none⟩ _).mono ?_
              rintro e u' w9 ⟨rfl, rfl, rfl⟩
              show Leaves _ _ _ _ [] FrameMode.returning _)
            exact ⟨_, results_cells rfl _ _ _ _ _ _ _ _ _ _ rfl HS8.out.1 rfl HS8.out.2.1 Tryd.underlying51 rfl (by rw [hfs]; exact size36m) (load_errno HS8.out.2.1), HEND.out _ HS8.out⟩
        · (
          refine wpOp_step rfl (fun K hK => ?_)
          have cz := HSB.out.2.1.cell 0
          rw [show (#[Value.int IntKind.i64 r])[0]? = some (Value.int IntKind.i64 r) from rfl] at cz
          go_simp
          refine hK _ _ ⟨HSB.out, ?_⟩
          clear hK K cz)
          (
            refine wpAnyH_all (rs := [0]) (by kernel_rfl) (by simp) ?_
            intro i hi
            simp only [List.mem_cons, List.not_mem_nil, or_false] at hi
            subst hi)
          (
            refine wpOp_step rfl (fun K hK => ?_)
            rw [if_pos (by kernel_rfl)]
            refine wp_load_row 51 (.tmp 2) rfl w.heap.size (by kernel_rfl) 51 zeroM _ _ HSB.out.1 Tryd.underlying51 rfl (by rw [hfs]; exact size36m) ?_
            refine hK _ _ ⟨HSB.out, ?_⟩
            clear hK K)
          (
            refine wpAnyH_all (rs := [2]) (by kernel_rfl) (by simp) ?_
            intro i hi
            simp only [List.mem_cons, List.not_mem_nil, or_false] at hi
            subst hi)
          (
            refine wpOp_step rfl (fun K hK => ?_)
            rw [if_pos (by kernel_rfl)]
            refine wp_store_at 51 (.tmp 2) (.tmp 15) rfl w.heap.size 0 51 zeroM zeroM (by kernel_rfl) (by kernel_rfl) HSB.out.1 (by omega) (by rw [hfs]; exact size36m) hfo ?_
            intro w7 hw7 hf7
            rw [laidAt_all _ _ rfl] at hw7
            have HS7 := Lib.hid (show Whole w7 w.heap.size 51 zeroM ∧ Whole w7 (w.heap.size + 1) 28 #[.int .i64 r] ∧ Fr (fun k => k = w.heap.size ∨ k = w.heap.size + 1) wb w7 from ⟨hw7, HSB.out.2.1.fr hf7 (fun e => by omega), HSB.out.2.2.trans hf7 (fun _ _ e => .inl e)⟩)
            clear hf7 hw7
            go_simp
            refine hK _ _ ⟨HS7.out, ?_⟩
            clear hK K)
          (
            refine wpAnyH_all (rs := [3]) (by kernel_rfl) (by simp) ?_
            intro i hi
            simp only [List.mem_cons, List.not_mem_nil, or_false] at hi
            subst hi)
          (
            refine wpOp_step rfl (fun K hK => ?_)
            have c7 := HS7.out.2.1.cell 0
            rw [show (#[Value.int IntKind.i64 r])[0]? = some (Value.int IntKind.i64 r) from rfl] at c7
            have z7 := HS7.out.2.1.frozen 0
            have f8 : Fr (fun k => k = w.heap.size + 1) w7 (w7.setCell ⟨w.heap.size + 1, 0, none⟩ (.int .i64 r)) := Fr.setCell (S := fun k => k = w.heap.size + 1) (p := ⟨w.heap.size + 1, 0, none⟩) (Fr.refl _ w7) (fun _ => rfl) _
            have HS8 := Lib.hid (show Whole (w7.setCell ⟨w.heap.size + 1, 0, none⟩ (.int .i64 r)) w.heap.size 51 zeroM ∧ Whole (w7.setCell ⟨w.heap.size + 1, 0, none⟩ (.int .i64 r)) (w.heap.size + 1) 28 #[.int .i64 r] ∧ Fr (fun k => k = w.heap.size ∨ k = w.heap.size + 1) wb (w7.setCell ⟨w.heap.size + 1, 0, none⟩ (.int .i64 r)) from ⟨HS7.out.1.fr f8 (fun e => by omega), HS7.out.2.1.set 0 (.int .i64 r), HS7.out.2.2.trans f8 (fun _ _ e => .inr e)⟩)
            clear f8
            go_simp
            refine hK _ _ ⟨HS8.out, ?_⟩
            clear hK K
            refine wpAnyH_done (by kernel_rfl) ?_ _
            go_wp2_with fail
            refine leaves_cons (f := 44) (args := #[.pointer (some ⟨w.heap.size, 0, none⟩), .pointer (some ⟨w.heap.size + 1, 0, none⟩)]) (by simp) (by simp [go_sem]) ?_
            refine (catchM_idle ⟨w.heap.size, 0, none⟩ ⟨w.heap.size + 1, 0, none⟩ _).mono ?_
            rintro e u' w9 ⟨rfl, rfl, rfl⟩
            show Leaves _ _ _ _ [] FrameMode.returning _)
          exact ⟨_, results_cells rfl _ _ _ _ _ _ _ _ _ _ rfl HS8.out.1 rfl HS8.out.2.1 Tryd.underlying51 rfl (by rw [hfs]; exact size36m) (load_errno HS8.out.2.1), HEND.out _ HS8.out⟩)
end Go.Proofs.YtppddpbacpeadaaDoor

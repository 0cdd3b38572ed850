/- What is proved: bytes as a commit, by the program. Conditions: the bytes' cells are there, not too many. -/
import Derived.Test.YtppddpbacpeadaaDoorRwc
namespace Go.Proofs.YtppddpbacpeadaaDoor
open Go.RowKit Go.Sort Go.Shelf
open Ids (idC dgt big idC_size idC_get idC_one cellD zero32 size32 dgt_lt hexB)
set_option linter.unusedVariables false

def zeroP : RevP := ⟨0, [], [], 0, []⟩
/-- What bytes tell: a commit, and an error's number. -/
def getC (G : Option RevP) : RevP × Int := match G with
  | none => (zeroP, 12)
  | some R => if chkE R.ps R.a R.n R.t = 0 then (R, 0) else (zeroP, chkE R.ps R.a R.n R.t)
def getR (s : List UInt8) : RevP × Int := getC (revL s)
theorem getC_ok {R : RevP} (h : chkE R.ps R.a R.n R.t = 0) : getC (some R) = (R, 0) := by rw [getC, if_pos h]
theorem getC_bad {R : RevP} (h : chkE R.ps R.a R.n R.t ≠ 0) : getC (some R) = (zeroP, chkE R.ps R.a R.n R.t) := by rw [getC, if_neg h]
theorem revL_props {s : List UInt8} {R : RevP} (h : revL s = some R) : R.ps.length ≤ s.length ∧ (∀ n ∈ R.ps, n < big) ∧ R.a.length ≤ s.length ∧ R.t.length ≤ s.length ∧ R.n < 1000000000000000 ∧ R.T < big := by
  unfold revL at h
  split at h
  · cases h
  · rename_i T r0 hi
    have h0 := idL_len hi
    unfold revL1 at h
    split at h
    · cases h
    · rename_i ps r1 hp
      have h1 := parA_len _ _ _ _ _ hp
      unfold revL2 at h
      split at h
      · cases h
      · rename_i a r2 ha
        have h2 := takeL_len ha
        unfold revL3 at h
        split at h
        · cases h
        · rename_i n r3 hn
          have h3 := numL_len hn
          unfold revL4 at h
          split at h
          · cases h
          · rename_i t ht
            injection h with h
            subst h
            have h4 : t.length ≤ r3.length := by
              unfold textL at ht
              split at ht
              · injection ht with ht; subst ht; rw [List.length_drop]; omega
              · cases ht
            simp only [List.length_nil] at h1
            exact ⟨by show ps.length ≤ s.length; omega, h1.2.2 (by simp), by show a.length ≤ s.length; omega, by show t.length ≤ s.length; omega, h3.2, h0.2⟩
/-- A call that answers what two cells' blocks hold. -/
theorem results_cells {P : Program} {fn : Func} {p q : Tmp} {ty ty2 : TypeId} (h : fn.results = #[.cell p ty, .cell q ty2]) (tmps : Array Value) (w : World) (g g2 : Nat) (t t2 : TypeId) (cs : Array Value) (d : TypeDesc) (k : IntKind) (x : Int)
    (hp : tmps.getD p undef = .pointer (some ⟨g, 0, none⟩)) (hg : Whole w g t cs) (hq : tmps.getD q undef = .pointer (some ⟨g2, 0, none⟩)) (hg2 : Whole w g2 t2 #[.int k x])
    (hu : P.underlying ty = some d) (hd : (match d with | .struct _ | .array _ _ => true | _ => false) = true) (hi : (P.info? ty).map (·.size) = some cs.size) (hl : (loadVar ty2 ⟨g2, 0, none⟩).run P w = .ok (.int k x) w) :
    (results fn tmps).run P w = .ok (.tuple #[.agg cs, .int k x]) w := by
  have hp' : tmps[p]?.getD undef = .pointer (some ⟨g, 0, none⟩) := by simpa using hp
  have hq' : tmps[q]?.getD undef = .pointer (some ⟨g2, 0, none⟩) := by simpa using hq
  have hg' : w.heap[g]? = some (.cells cs t (0, 0)) := hg
  simp [results, h, hp', hq', asAddr, run_loadVar_row w g t ty cs (0, 0) d hg' hu hd hi, hl]
theorem load_errno {w : World} {g : Nat} {x : Int} (h : Whole w g 28 #[.int .i64 x]) : (loadVar 28 ⟨g, 0, none⟩).run Tryd.prog w = .ok (.int .i64 x) w := by
  have hc := h.cell 0
  rw [show (#[Value.int IntKind.i64 x])[0]? = some (Value.int IntKind.i64 x) from rfl] at hc
  go_simp

theorem yieldsIf_load_rev {ops : Array Oper} {S : World → Prop} {op : Oper} {a : Act} (hw : Region.wanted op (yielded ops a.tmps) = true) (x : Operand) (ho : op.op = .load 26 x)
    (b o : Nat) (hx : a.eval x = .pointer (some ⟨b, o, none⟩)) (cx : Array Value) (hs : cx.size = 36) (hS : ∀ w, S w → w.rangeAt b o cx.toList) : YieldsIf Tryd.prog ops S op (.agg cx) a := by
  have := yieldsIf_load_mid (P := Tryd.prog) (ops := ops) (S := S) hw 26 x ho b o hx cx.toList _ hS Tryd.underlying26 rfl (by rw [Array.length_toList, hs]; exact size36)
  rwa [Array.toArray_toList] at this

set_option maxHeartbeats 6400000 in
set_option maxRecDepth 100000 in
theorem VGet_any (A : Option Addr) (c : Nat) (l : List UInt8) (hl : l.length ≤ 100000) (w : World) (h : Lies w A (bytesV l)) :
    Calls Tryd.prog 18 #[.slice A l.length c] w fun e w' => ∃ v, e = .returned (.tuple #[.agg (revC (getR l).1.T v (getR l).1.a (getR l).1.n (getR l).1.t), .int .i64 (getR l).2]) ∧ OwnI w w' v (getR l).1.ps := by
  have hmf : ∀ (fn : Fn) (first cap : Array Value) (w : World), (Instr.makeFunc fn first cap).run Tryd.prog w = .ok (.func fn first cap) w := fun _ _ _ _ => rfl
  obtain ⟨w1, hw1⟩ : ∃ w1, w.alloc (.cells zeroR 26) = w1 := ⟨_, rfl⟩
  obtain ⟨w2, hw2⟩ : ∃ w2, w1.alloc (.cells #[.int .i64 0] 28) = w2 := ⟨_, rfl⟩
  obtain ⟨w3, hw3⟩ : ∃ w3, w2.alloc (.cells #[.string (strB l)] 70) = w3 := ⟨_, rfl⟩
  have hF1 : Fr (fun _ => False) w w1 := by subst hw1; exact (Fr.refl _ w).alloc _
  have hF2 : Fr (fun _ => False) w1 w2 := by subst hw2; exact (Fr.refl _ w1).alloc _
  have hF3 : Fr (fun _ => False) w2 w3 := by subst hw3; exact (Fr.refl _ w2).alloc _
  have hsz1 : w1.heap.size = w.heap.size + 1 := by subst hw1; exact alloc_size _ _
  have hsz2 : w2.heap.size = w.heap.size + 2 := by subst hw2; rw [alloc_size]; omega
  have HSZ : Hid (w3.heap.size = w.heap.size + 3) := Lib.hid (by subst hw3; rw [alloc_size]; omega)
  have hC : Whole w1 w.heap.size 26 zeroR := by subst hw1; exact Whole.new w _ _
  have hE : Whole w2 w1.heap.size 28 #[.int .i64 0] := by subst hw2; exact Whole.new w1 _ _
  have hL : LinesAt w3 w2.heap.size l := by subst hw3; exact Whole.new w2 _ _
  have HC3 := Lib.hid ((hC.fr hF2 (fun e => e)).fr hF3 (fun e => e))
  have HE3 := Lib.hid (hE.fr hF3 (fun e => e))
  have HF := Lib.hid ((hF1.trans hF2 (fun _ _ e => e)).trans hF3 (fun _ _ e => e))
  have HTR := Lib.hid (VtakeRev_any w2.heap.size l hl w3 hL)
  have cv := run_convert_lies 27 9 5 Tryd.underlying27 Tryd.underlying5 Tryd.underlying9 (h.fr (hF1.trans hF2 (fun _ _ e => e)) (fun _ _ e => e)) c
  rw [hsz1] at HE3
  rw [hsz2] at HTR
  rw [getR]
  obtain ⟨S, hS⟩ : ∃ S, strB l = S := ⟨_, rfl⟩
  obtain ⟨n, hn⟩ : ∃ n, l.length = n := ⟨_, rfl⟩
  rw [hS] at cv hw3
  rw [hn] at cv ⊢
  unfold zeroR at hw1
  simp [List.replicate] at hw1
  clear hS hF1 hF2 hF3 hC hE hL h
  cases hG : revL l with
  | none =>
    rw [hG] at HTR
    clear hG
    go_enter_defers Tryd.func18, Tryd.ntmps18
    go_wp2_with (go_at_call 39; refine HTR.out.mono ?_; rintro e w4 ⟨rfl, f4⟩)
    refine leaves_cons (f := 38) (args := #[.pointer (some ⟨w.heap.size, 0, none⟩), .pointer (some ⟨w.heap.size + 1, 0, none⟩)]) (by simp) (by simp [go_sem]) ?_
    refine (catch_panicking w.heap.size (w.heap.size + 1) (by omega) 28 _ [] zeroR rfl 0 w4 (HC3.out.fr f4 (fun e => by omega)) (HE3.out.fr f4 (fun e => by omega))).mono ?_
    rintro e u' w5 ⟨rfl, rfl, hc5, he5, f5⟩
    show Leaves _ _ _ _ [] FrameMode.returning _
    refine ⟨.tuple #[.agg zeroR, .int .i64 12], results_cells rfl _ _ _ _ _ _ _ _ _ _ rfl hc5 rfl he5 Tryd.underlying26 rfl size36 (load_errno he5), .slice none 0 0, by rw [zeroR_eq]; rfl, ?_⟩
    exact OwnI.nil ((HF.out.trans f4 (fun i hi e => by omega)).trans f5 (fun i hi e => by rcases e with e | e <;> omega))
  | some R =>
    rw [hG] at HTR
    have hpr := revL_props hG
    clear hG
    have HCK := Lib.hid (fun (A4 : Option Addr) (k4 : Nat) (hk : R.ps.length ≤ k4) (w5 : World) (h5 : Lies w5 A4 (flatI R.ps)) => VCheck_any R.T A4 k4 R.ps R.a R.n R.t hk hpr.2.1 (by omega) (by omega) w5 h5)
    have HG0 := Lib.hid (fun h => getC_ok (R := R) h)
    have HG1 := Lib.hid (fun h => getC_bad (R := R) h)
    have HRS := Lib.hid (fun A4 k4 => revC_size R.T (.slice A4 R.ps.length k4) R.a R.n R.t)
    have HRO := Lib.hid (fun A4 k4 => revC_one R.T (.slice A4 R.ps.length k4) R.a R.n R.t rfl)
    have HBZ := Lib.hid zero_build
    obtain ⟨r, hr⟩ : ∃ r, chkE R.ps R.a R.n R.t = r := ⟨_, rfl⟩
    rw [hr] at HCK HG0 HG1
    clear hr hpr
    by_cases hr0 : r = 0
    · subst hr0
      go_enter_defers Tryd.func18, Tryd.ntmps18
      go_wp2_with (first
        | (go_at_call 39; refine HTR.out.mono ?_; rintro e w4 ⟨v4, rfl, o4, f4⟩
           obtain ⟨A4, k4, hv4, hk4, _⟩ := own_slice o4
           subst hv4
           have L4 := Lib.hid (Lies.of_own32 o4)
           have hrs := HRS.out A4 k4
           have hro := HRO.out A4 k4
           have hck := Lib.hid (HCK.out A4 k4 hk4)
           have C4 := Lib.hid (HC3.out.fr f4 (fun e => by omega))
           have E4 := Lib.hid (HE3.out.fr f4 (fun e => by omega))
           have O4 := Lib.hid o4
           have F4 := Lib.hid (HF.out.trans f4 (fun i hi e => by omega))
           obtain ⟨cr, hcr⟩ : ∃ c, revC R.T (.slice A4 R.ps.length k4) R.a R.n R.t = c := ⟨_, rfl⟩
           rw [hcr] at hrs hro hck
           rw [hcr]
           have HCR := Lib.hid hcr
           clear hcr o4 f4)
        | (refine wpList_store_at rfl 26 _ _ rfl w.heap.size 0 26 zeroR cr rfl rfl C4.out (by rw [hrs]; decide) (by rw [hrs]; exact size36) hro ?_
           intro w5 hw5 hf5
           rw [laidAt_all _ _ (by rw [hrs]; rfl)] at hw5
           have C5 := Lib.hid hw5
           have E5 := Lib.hid (E4.out.fr hf5 (fun e => by omega))
           have O5 := Lib.hid (own_fr O4.out hf5 (fun k hk e => by have := (World.ownsRow.lt O4.out k hk).1; have := HSZ.out; omega))
           have F5 := Lib.hid (F4.out.trans hf5 (fun i hi e => by omega))
           clear hw5 hf5)
        | (refine wpList_load_row rfl 26 _ rfl _ rfl 26 _ _ _ C5.out Tryd.underlying26 rfl (by rw [hrs]; exact size36) ?_)
        | (go_at_call 13; refine (hck.out w5 (Lies.of_own32 O5.out)).mono ?_; rintro e w6 ⟨rfl, b6⟩
           have C6 := Lib.hid (C5.out.fr (Fr.of_below (S := fun _ => False) b6) (fun e => e))
           have E6 := Lib.hid (E5.out.fr (Fr.of_below (S := fun _ => False) b6) (fun e => e))
           have c6 := E6.out.cell 0
           rw [show (#[Value.int IntKind.i64 0])[0]? = some (Value.int IntKind.i64 0) from rfl] at c6
           have z6 := E6.out.frozen 0
           have F6 := Lib.hid (F5.out.then_below b6)
           have O6 := Lib.hid (own_fr O5.out (Fr.of_below (S := fun _ => False) b6) (fun _ _ e => e))
           clear b6))
      obtain ⟨wb, hwb⟩ : ∃ wb, w6.setCell ⟨w.heap.size + 1, 0, none⟩ (.int .i64 0) = wb := ⟨_, rfl⟩
      have f7 : Fr (fun k => k = w.heap.size + 1) w6 wb := by rw [← hwb]; exact Fr.setCell (S := fun k => k = w.heap.size + 1) (p := ⟨w.heap.size + 1, 0, none⟩) (Fr.refl _ w6) (fun _ => rfl) _
      have HSB : Hid (Whole wb.drew w.heap.size 26 cr ∧ Whole wb.drew (w.heap.size + 1) 28 #[.int .i64 0] ∧ Fr (fun k => k = w.heap.size ∨ k = w.heap.size + 1) wb wb.drew) := Lib.hid ⟨C6.out.fr f7.drew (fun e => by omega), by have := E6.out.set 0 (.int .i64 0); rw [hwb] at this; exact this, (Fr.refl _ wb).drew⟩
      have FB := Lib.hid (F6.out.trans f7 (fun i hi e => by omega))
      have OB := Lib.hid (own_fr O6.out f7 (fun k hk e => by have := (World.ownsRow.lt O6.out k hk).1; have := HSZ.out; omega))
      rw [hwb]
      have hfs := hrs
      have hfo := hro
      clear hwb f7
      have HEND : Hid (∀ w9, Whole w9 w.heap.size 26 cr ∧ Whole w9 (w.heap.size + 1) 28 #[.int .i64 0] ∧ Fr (fun k => k = w.heap.size ∨ k = w.heap.size + 1) wb w9 → ∃ v, (Ending.returned (.tuple #[.agg cr, .int .i64 0]) : Ending) = Ending.returned (.tuple #[.agg (revC (getC (some R)).1.T v (getC (some R)).1.a (getC (some R)).1.n (getC (some R)).1.t), .int .i64 (getC (some R)).2]) ∧ OwnI w w9 v (getC (some R)).1.ps) := Lib.hid (fun w9 hS => by
        rw [HG0.out (by first | rfl | trivial)]
        refine ⟨_, by rw [← HCR.out], ?_, FB.out.trans hS.2.2 (fun i hi e => by rcases e with e | e <;> omega)⟩
        have o9 := own_fr OB.out hS.2.2 (fun k hk e => by have := (World.ownsRow.lt OB.out k hk).1; have := HSZ.out; rcases e with e | e <;> omega)
        refine ⟨o9.1, ?_⟩
        rcases o9.2 with h0 | ⟨gg, cap, cur, hv, hb, rr⟩
        · exact .inl h0
        · exact .inr ⟨gg, cap, cur, hv, by have := HSZ.out; omega, rr⟩)
      (
        refine wp_region_held (S := fun w' => Whole w' w.heap.size 26 cr ∧ Whole w' (w.heap.size + 1) 28 #[.int .i64 0] ∧ Fr (fun k => k = w.heap.size ∨ k = w.heap.size + 1) wb w') (by kernel_rfl) ?_
        (
          refine wpAnyH_all (rs := [0, 1]) (by kernel_rfl) (by simp) ?_
          intro i hi
          simp only [List.mem_cons, List.not_mem_nil, or_false] at hi
          rcases hi with hi | hi <;> subst hi)
        · (
          refine wpOp_step rfl (fun K hK => ?_)
          rw [if_pos (by kernel_rfl)]
          refine wp_load_row 26 (.tmp 2) rfl w.heap.size (by kernel_rfl) 26 cr _ _ HSB.out.1 Tryd.underlying26 rfl (by rw [hfs]; exact size36) ?_
          refine hK _ _ ⟨HSB.out, ?_⟩
          clear hK K)
          (
            refine wpAnyH_all (rs := [1, 2]) (by kernel_rfl) (by simp) ?_
            intro i hi
            simp only [List.mem_cons, List.not_mem_nil, or_false] at hi
            rcases hi with hi | hi <;> subst hi)
          · (
            refine wpOp_step rfl (fun K hK => ?_)
            have cz := HSB.out.2.1.cell 0
            rw [show (#[Value.int IntKind.i64 0])[0]? = some (Value.int IntKind.i64 0) from rfl] at cz
            go_simp
            refine hK _ _ ⟨HSB.out, ?_⟩
            clear hK K cz)
            (
              refine wpAnyH_all (rs := [2]) (by kernel_rfl) (by simp) ?_
              intro i hi
              simp only [List.mem_cons, List.not_mem_nil, or_false] at hi
              subst hi)
            (
              refine wpOp_step rfl (fun K hK => ?_)
              rw [if_pos (by kernel_rfl)]
              refine wp_store_at 26 (.tmp 2) (.tmp 15) rfl w.heap.size 0 26 cr cr (by kernel_rfl) (by kernel_rfl) HSB.out.1 (by omega) (by rw [hfs]; exact size36) hfo ?_
              intro w7 hw7 hf7
              rw [laidAt_all _ _ rfl] at hw7
              have HS7 := Lib.hid (show Whole w7 w.heap.size 26 cr ∧ Whole w7 (w.heap.size + 1) 28 #[.int .i64 0] ∧ Fr (fun k => k = w.heap.size ∨ k = w.heap.size + 1) wb w7 from ⟨hw7, HSB.out.2.1.fr hf7 (fun e => by omega), HSB.out.2.2.trans hf7 (fun _ _ e => .inl e)⟩)
              clear hf7 hw7
              go_simp
              refine hK _ _ ⟨HS7.out, ?_⟩
              clear hK K)
            (
              refine wpAnyH_all (rs := [3]) (by kernel_rfl) (by simp) ?_
              intro i hi
              simp only [List.mem_cons, List.not_mem_nil, or_false] at hi
              subst hi)
            (
              refine wpOp_step rfl (fun K hK => ?_)
              have c7 := HS7.out.2.1.cell 0
              rw [show (#[Value.int IntKind.i64 0])[0]? = some (Value.int IntKind.i64 0) from rfl] at c7
              have z7 := HS7.out.2.1.frozen 0
              have f8 : Fr (fun k => k = w.heap.size + 1) w7 (w7.setCell ⟨w.heap.size + 1, 0, none⟩ (.int .i64 0)) := Fr.setCell (S := fun k => k = w.heap.size + 1) (p := ⟨w.heap.size + 1, 0, none⟩) (Fr.refl _ w7) (fun _ => rfl) _
              have HS8 := Lib.hid (show Whole (w7.setCell ⟨w.heap.size + 1, 0, none⟩ (.int .i64 0)) w.heap.size 26 cr ∧ Whole (w7.setCell ⟨w.heap.size + 1, 0, none⟩ (.int .i64 0)) (w.heap.size + 1) 28 #[.int .i64 0] ∧ Fr (fun k => k = w.heap.size ∨ k = w.heap.size + 1) wb (w7.setCell ⟨w.heap.size + 1, 0, none⟩ (.int .i64 0)) from ⟨HS7.out.1.fr f8 (fun e => by omega), HS7.out.2.1.set 0 (.int .i64 0), HS7.out.2.2.trans f8 (fun _ _ e => .inr e)⟩)
              clear f8
              go_simp
              refine hK _ _ ⟨HS8.out, ?_⟩
              clear hK K
              refine wpAnyH_done (by kernel_rfl) ?_ _
              go_wp2_with fail
              refine leaves_cons (f := 38) (args := #[.pointer (some ⟨w.heap.size, 0, none⟩), .pointer (some ⟨w.heap.size + 1, 0, none⟩)]) (by simp) (by simp [go_sem]) ?_
              refine (catch_idle ⟨w.heap.size, 0, none⟩ ⟨w.heap.size + 1, 0, none⟩ _).mono ?_
              rintro e u' w9 ⟨rfl, rfl, rfl⟩
              show Leaves _ _ _ _ [] FrameMode.returning _)
            exact ⟨_, results_cells rfl _ _ _ _ _ _ _ _ _ _ rfl HS8.out.1 rfl HS8.out.2.1 Tryd.underlying26 rfl (by rw [hfs]; exact size36) (load_errno HS8.out.2.1), HEND.out _ HS8.out⟩
          · (
            refine wpOp_step rfl (fun K hK => ?_)
            rw [if_pos (by kernel_rfl)]
            refine wp_store_at 26 (.tmp 2) (.tmp 15) rfl w.heap.size 0 26 cr cr (by kernel_rfl) (by kernel_rfl) HSB.out.1 (by omega) (by rw [hfs]; exact size36) hfo ?_
            intro w7 hw7 hf7
            rw [laidAt_all _ _ rfl] at hw7
            have HS7 := Lib.hid (show Whole w7 w.heap.size 26 cr ∧ Whole w7 (w.heap.size + 1) 28 #[.int .i64 0] ∧ Fr (fun k => k = w.heap.size ∨ k = w.heap.size + 1) wb w7 from ⟨hw7, HSB.out.2.1.fr hf7 (fun e => by omega), HSB.out.2.2.trans hf7 (fun _ _ e => .inl e)⟩)
            clear hf7 hw7
            go_simp
            refine hK _ _ ⟨HS7.out, ?_⟩
            clear hK K)
            (
              refine wpAnyH_all (rs := [1]) (by kernel_rfl) (by simp) ?_
              intro i hi
              simp only [List.mem_cons, List.not_mem_nil, or_false] at hi
              subst hi)
            (
              refine wpOp_step rfl (fun K hK => ?_)
              have cz := HS7.out.2.1.cell 0
              rw [show (#[Value.int IntKind.i64 0])[0]? = some (Value.int IntKind.i64 0) from rfl] at cz
              go_simp
              refine hK _ _ ⟨HS7.out, ?_⟩
              clear hK K cz)
            (
              refine wpAnyH_all (rs := [3]) (by kernel_rfl) (by simp) ?_
              intro i hi
              simp only [List.mem_cons, List.not_mem_nil, or_false] at hi
              subst hi)
            (
              refine wpOp_step rfl (fun K hK => ?_)
              have c7 := HS7.out.2.1.cell 0
              rw [show (#[Value.int IntKind.i64 0])[0]? = some (Value.int IntKind.i64 0) from rfl] at c7
              have z7 := HS7.out.2.1.frozen 0
              have f8 : Fr (fun k => k = w.heap.size + 1) w7 (w7.setCell ⟨w.heap.size + 1, 0, none⟩ (.int .i64 0)) := Fr.setCell (S := fun k => k = w.heap.size + 1) (p := ⟨w.heap.size + 1, 0, none⟩) (Fr.refl _ w7) (fun _ => rfl) _
              have HS8 := Lib.hid (show Whole (w7.setCell ⟨w.heap.size + 1, 0, none⟩ (.int .i64 0)) w.heap.size 26 cr ∧ Whole (w7.setCell ⟨w.heap.size + 1, 0, none⟩ (.int .i64 0)) (w.heap.size + 1) 28 #[.int .i64 0] ∧ Fr (fun k => k = w.heap.size ∨ k = w.heap.size + 1) wb (w7.setCell ⟨w.heap.size + 1, 0, none⟩ (.int .i64 0)) from ⟨HS7.out.1.fr f8 (fun e => by omega), HS7.out.2.1.set 0 (.int .i64 0), HS7.out.2.2.trans f8 (fun _ _ e => .inr e)⟩)
              clear f8
              go_simp
              refine hK _ _ ⟨HS8.out, ?_⟩
              clear hK K
              refine wpAnyH_done (by kernel_rfl) ?_ _
              go_wp2_with fail
              refine leaves_cons (f := 38) (args := #[.pointer (some ⟨w.heap.size, 0, none⟩), .pointer (some ⟨w.heap.size + 1, 0, none⟩)]) (by simp) (by simp [go_sem]) ?_
              refine (catch_idle ⟨w.heap.size, 0, none⟩ ⟨w.heap.size + 1, 0, none⟩ _).mono ?_
              rintro e u' w9 ⟨rfl, rfl, rfl⟩
              show Leaves _ _ _ _ [] FrameMode.returning _)
            exact ⟨_, results_cells rfl _ _ _ _ _ _ _ _ _ _ rfl HS8.out.1 rfl HS8.out.2.1 Tryd.underlying26 rfl (by rw [hfs]; exact size36) (load_errno HS8.out.2.1), HEND.out _ HS8.out⟩
        · (
          refine wpOp_step rfl (fun K hK => ?_)
          have cz := HSB.out.2.1.cell 0
          rw [show (#[Value.int IntKind.i64 0])[0]? = some (Value.int IntKind.i64 0) from rfl] at cz
          go_simp
          refine hK _ _ ⟨HSB.out, ?_⟩
          clear hK K cz)
          (
            refine wpAnyH_all (rs := [0]) (by kernel_rfl) (by simp) ?_
            intro i hi
            simp only [List.mem_cons, List.not_mem_nil, or_false] at hi
            subst hi)
          (
            refine wpOp_step rfl (fun K hK => ?_)
            rw [if_pos (by kernel_rfl)]
            refine wp_load_row 26 (.tmp 2) rfl w.heap.size (by kernel_rfl) 26 cr _ _ HSB.out.1 Tryd.underlying26 rfl (by rw [hfs]; exact size36) ?_
            refine hK _ _ ⟨HSB.out, ?_⟩
            clear hK K)
          (
            refine wpAnyH_all (rs := [2]) (by kernel_rfl) (by simp) ?_
            intro i hi
            simp only [List.mem_cons, List.not_mem_nil, or_false] at hi
            subst hi)
          (
            refine wpOp_step rfl (fun K hK => ?_)
            rw [if_pos (by kernel_rfl)]
            refine wp_store_at 26 (.tmp 2) (.tmp 15) rfl w.heap.size 0 26 cr cr (by kernel_rfl) (by kernel_rfl) HSB.out.1 (by omega) (by rw [hfs]; exact size36) hfo ?_
            intro w7 hw7 hf7
            rw [laidAt_all _ _ rfl] at hw7
            have HS7 := Lib.hid (show Whole w7 w.heap.size 26 cr ∧ Whole w7 (w.heap.size + 1) 28 #[.int .i64 0] ∧ Fr (fun k => k = w.heap.size ∨ k = w.heap.size + 1) wb w7 from ⟨hw7, HSB.out.2.1.fr hf7 (fun e => by omega), HSB.out.2.2.trans hf7 (fun _ _ e => .inl e)⟩)
            clear hf7 hw7
            go_simp
            refine hK _ _ ⟨HS7.out, ?_⟩
            clear hK K)
          (
            refine wpAnyH_all (rs := [3]) (by kernel_rfl) (by simp) ?_
            intro i hi
            simp only [List.mem_cons, List.not_mem_nil, or_false] at hi
            subst hi)
          (
            refine wpOp_step rfl (fun K hK => ?_)
            have c7 := HS7.out.2.1.cell 0
            rw [show (#[Value.int IntKind.i64 0])[0]? = some (Value.int IntKind.i64 0) from rfl] at c7
            have z7 := HS7.out.2.1.frozen 0
            have f8 : Fr (fun k => k = w.heap.size + 1) w7 (w7.setCell ⟨w.heap.size + 1, 0, none⟩ (.int .i64 0)) := Fr.setCell (S := fun k => k = w.heap.size + 1) (p := ⟨w.heap.size + 1, 0, none⟩) (Fr.refl _ w7) (fun _ => rfl) _
            have HS8 := Lib.hid (show Whole (w7.setCell ⟨w.heap.size + 1, 0, none⟩ (.int .i64 0)) w.heap.size 26 cr ∧ Whole (w7.setCell ⟨w.heap.size + 1, 0, none⟩ (.int .i64 0)) (w.heap.size + 1) 28 #[.int .i64 0] ∧ Fr (fun k => k = w.heap.size ∨ k = w.heap.size + 1) wb (w7.setCell ⟨w.heap.size + 1, 0, none⟩ (.int .i64 0)) from ⟨HS7.out.1.fr f8 (fun e => by omega), HS7.out.2.1.set 0 (.int .i64 0), HS7.out.2.2.trans f8 (fun _ _ e => .inr e)⟩)
            clear f8
            go_simp
            refine hK _ _ ⟨HS8.out, ?_⟩
            clear hK K
            refine wpAnyH_done (by kernel_rfl) ?_ _
            go_wp2_with fail
            refine leaves_cons (f := 38) (args := #[.pointer (some ⟨w.heap.size, 0, none⟩), .pointer (some ⟨w.heap.size + 1, 0, none⟩)]) (by simp) (by simp [go_sem]) ?_
            refine (catch_idle ⟨w.heap.size, 0, none⟩ ⟨w.heap.size + 1, 0, none⟩ _).mono ?_
            rintro e u' w9 ⟨rfl, rfl, rfl⟩
            show Leaves _ _ _ _ [] FrameMode.returning _)
          exact ⟨_, results_cells rfl _ _ _ _ _ _ _ _ _ _ rfl HS8.out.1 rfl HS8.out.2.1 Tryd.underlying26 rfl (by rw [hfs]; exact size36) (load_errno HS8.out.2.1), HEND.out _ HS8.out⟩)
    · have hrz : (r == 0) = false := by simp [hr0]
      have HBad := Lib.hid (HG1.out hr0)
      go_enter_defers Tryd.func18, Tryd.ntmps18
      go_wp2_with (first
        | (go_at_call 39; refine HTR.out.mono ?_; rintro e w4 ⟨v4, rfl, o4, f4⟩
           obtain ⟨A4, k4, hv4, hk4, _⟩ := own_slice o4
           subst hv4
           have hrs := HRS.out A4 k4
           have hro := HRO.out A4 k4
           have hck := Lib.hid (HCK.out A4 k4 hk4)
           have C4 := Lib.hid (HC3.out.fr f4 (fun e => by omega))
           have E4 := Lib.hid (HE3.out.fr f4 (fun e => by omega))
           have O4 := Lib.hid o4
           have F4 := Lib.hid (HF.out.trans f4 (fun i hi e => by omega))
           obtain ⟨cr, hcr⟩ : ∃ c, revC R.T (.slice A4 R.ps.length k4) R.a R.n R.t = c := ⟨_, rfl⟩
           rw [hcr] at hrs hro hck
           rw [hcr]
           clear hcr o4 f4)
        | (refine wpList_build_to rfl 26 _ rfl #[] (by first | rfl | simp [Act.eval]) (.agg zeroR) (HBZ.out _) ?_)
        | (have _ := M7
           refine wpList_store_at rfl 26 _ _ rfl w.heap.size 0 26 cr zeroR rfl rfl K7.out.1 (by rw [hrs]; decide) size36 zeroR_one ?_
           intro w8 hw8 hf8
           rw [laidAt_all _ _ (by rw [hrs]; rfl)] at hw8
           have K8 := Lib.hid (show Whole w8 w.heap.size 26 zeroR ∧ Whole w8 (w.heap.size + 1) 28 #[.int .i64 r] ∧ Fr (fun _ => False) w w8 from ⟨hw8, K7.out.2.1.fr hf8 (fun e => by omega), K7.out.2.2.trans hf8 (fun i hi e => by omega)⟩)
           clear hw8 hf8)
        | (refine wpList_store_at rfl 26 _ _ rfl w.heap.size 0 26 zeroR cr rfl rfl C4.out (by rw [hrs]; decide) (by rw [hrs]; exact size36) hro ?_
           intro w5 hw5 hf5
           rw [laidAt_all _ _ (by rw [hrs]; rfl)] at hw5
           have C5 := Lib.hid hw5
           have E5 := Lib.hid (E4.out.fr hf5 (fun e => by omega))
           have O5 := Lib.hid (own_fr O4.out hf5 (fun k hk e => by have := (World.ownsRow.lt O4.out k hk).1; have := HSZ.out; omega))
           have F5 := Lib.hid (F4.out.trans hf5 (fun i hi e => by omega))
           clear hw5 hf5)
        | (refine wpList_load_row rfl 26 _ rfl _ rfl 26 _ _ _ C5.out Tryd.underlying26 rfl (by rw [hrs]; exact size36) ?_)
        | (go_at_call 13; refine (hck.out w5 (Lies.of_own32 O5.out)).mono ?_; rintro e w6 ⟨rfl, b6⟩
           have C6 := Lib.hid (C5.out.fr (Fr.of_below (S := fun _ => False) b6) (fun e => e))
           have E6 := Lib.hid (E5.out.fr (Fr.of_below (S := fun _ => False) b6) (fun e => e))
           have c6 := E6.out.cell 0
           rw [show (#[Value.int IntKind.i64 0])[0]? = some (Value.int IntKind.i64 0) from rfl] at c6
           have z6 := E6.out.frozen 0
           have f7 : Fr (fun k => k = w.heap.size + 1) w6 (w6.setCell ⟨w.heap.size + 1, 0, none⟩ (.int .i64 r)) := Fr.setCell (S := fun k => k = w.heap.size + 1) (p := ⟨w.heap.size + 1, 0, none⟩) (Fr.refl _ w6) (fun _ => rfl) _
           have K7 := Lib.hid (show Whole (w6.setCell ⟨w.heap.size + 1, 0, none⟩ (.int .i64 r)) w.heap.size 26 cr ∧ Whole (w6.setCell ⟨w.heap.size + 1, 0, none⟩ (.int .i64 r)) (w.heap.size + 1) 28 #[.int .i64 r] ∧ Fr (fun _ => False) w (w6.setCell ⟨w.heap.size + 1, 0, none⟩ (.int .i64 r)) from ⟨C6.out.fr f7 (fun e => by omega), E6.out.set 0 (.int .i64 r), (F5.out.then_below b6).trans f7 (fun i hi e => by omega)⟩)
           have M7 := True.intro
           clear b6 f7))
      have HSB : Hid (Whole w8.drew w.heap.size 26 zeroR ∧ Whole w8.drew (w.heap.size + 1) 28 #[.int .i64 r] ∧ Fr (fun k => k = w.heap.size ∨ k = w.heap.size + 1) w8 w8.drew) := Lib.hid ⟨K8.out.1, K8.out.2.1, (Fr.refl _ w8).drew⟩
      obtain ⟨wb, hwb⟩ : ∃ wb, w8 = wb := ⟨_, rfl⟩
      rw [hwb] at HSB K8 ⊢
      have hfs := zeroR_size
      have hfo := zeroR_one
      clear hwb
      have HEND : Hid (∀ w9, Whole w9 w.heap.size 26 zeroR ∧ Whole w9 (w.heap.size + 1) 28 #[.int .i64 r] ∧ Fr (fun k => k = w.heap.size ∨ k = w.heap.size + 1) wb w9 → ∃ v, (Ending.returned (.tuple #[.agg zeroR, .int .i64 r]) : Ending) = Ending.returned (.tuple #[.agg (revC (getC (some R)).1.T v (getC (some R)).1.a (getC (some R)).1.n (getC (some R)).1.t), .int .i64 (getC (some R)).2]) ∧ OwnI w w9 v (getC (some R)).1.ps) := Lib.hid (fun w9 hS => by
        rw [HBad.out]
        exact ⟨.slice none 0 0, by rw [zeroR_eq]; rfl, OwnI.nil (K8.out.2.2.trans hS.2.2 (fun i hi e => by rcases e with e | e <;> omega))⟩)
      (
        refine wp_region_held (S := fun w' => Whole w' w.heap.size 26 zeroR ∧ Whole w' (w.heap.size + 1) 28 #[.int .i64 r] ∧ Fr (fun k => k = w.heap.size ∨ k = w.heap.size + 1) wb w') (by kernel_rfl) ?_
        (
          refine wpAnyH_all (rs := [0, 1]) (by kernel_rfl) (by simp) ?_
          intro i hi
          simp only [List.mem_cons, List.not_mem_nil, or_false] at hi
          rcases hi with hi | hi <;> subst hi)
        · (
          refine wpOp_step rfl (fun K hK => ?_)
          rw [if_pos (by kernel_rfl)]
          refine wp_load_row 26 (.tmp 2) rfl w.heap.size (by kernel_rfl) 26 zeroR _ _ HSB.out.1 Tryd.underlying26 rfl (by rw [hfs]; exact size36) ?_
          refine hK _ _ ⟨HSB.out, ?_⟩
          clear hK K)
          (
            refine wpAnyH_all (rs := [1, 2]) (by kernel_rfl) (by simp) ?_
            intro i hi
            simp only [List.mem_cons, List.not_mem_nil, or_false] at hi
            rcases hi with hi | hi <;> subst hi)
          · (
            refine wpOp_step rfl (fun K hK => ?_)
            have cz := HSB.out.2.1.cell 0
            rw [show (#[Value.int IntKind.i64 r])[0]? = some (Value.int IntKind.i64 r) from rfl] at cz
            go_simp
            refine hK _ _ ⟨HSB.out, ?_⟩
            clear hK K cz)
            (
              refine wpAnyH_all (rs := [2]) (by kernel_rfl) (by simp) ?_
              intro i hi
              simp only [List.mem_cons, List.not_mem_nil, or_false] at hi
              subst hi)
            (
              refine wpOp_step rfl (fun K hK => ?_)
              rw [if_pos (by kernel_rfl)]
              refine wp_store_at 26 (.tmp 2) (.tmp 15) rfl w.heap.size 0 26 zeroR zeroR (by kernel_rfl) (by kernel_rfl) HSB.out.1 (by omega) (by rw [hfs]; exact size36) hfo ?_
              intro w7 hw7 hf7
              rw [laidAt_all _ _ rfl] at hw7
              have HS7 := Lib.hid (show Whole w7 w.heap.size 26 zeroR ∧ Whole w7 (w.heap.size + 1) 28 #[.int .i64 r] ∧ Fr (fun k => k = w.heap.size ∨ k = w.heap.size + 1) wb w7 from ⟨hw7, HSB.out.2.1.fr hf7 (fun e => by omega), HSB.out.2.2.trans hf7 (fun _ _ e => .inl e)⟩)
              clear hf7 hw7
              go_simp
              refine hK _ _ ⟨HS7.out, ?_⟩
              clear hK K)
            (
              refine wpAnyH_all (rs := [3]) (by kernel_rfl) (by simp) ?_
              intro i hi
              simp only [List.mem_cons, List.not_mem_nil, or_false] at hi
              subst hi)
            (
              refine wpOp_step rfl (fun K hK => ?_)
              have c7 := HS7.out.2.1.cell 0
              rw [show (#[Value.int IntKind.i64 r])[0]? = some (Value.int IntKind.i64 r) from rfl] at c7
              have z7 := HS7.out.2.1.frozen 0
              have f8 : Fr (fun k => k = w.heap.size + 1) w7 (w7.setCell ⟨w.heap.size + 1, 0, none⟩ (.int .i64 r)) := Fr.setCell (S := fun k => k = w.heap.size + 1) (p := ⟨w.heap.size + 1, 0, none⟩) (Fr.refl _ w7) (fun _ => rfl) _
              have HS8 := Lib.hid (show Whole (w7.setCell ⟨w.heap.size + 1, 0, none⟩ (.int .i64 r)) w.heap.size 26 zeroR ∧ Whole (w7.setCell ⟨w.heap.size + 1, 0, none⟩ (.int .i64 r)) (w.heap.size + 1) 28 #[.int .i64 r] ∧ Fr (fun k => k = w.heap.size ∨ k = w.heap.size + 1) wb (w7.setCell ⟨w.heap.size + 1, 0, none⟩ (.int .i64 r)) from ⟨HS7.out.1.fr f8 (fun e => by omega), HS7.out.2.1.set 0 (.int .i64 r), HS7.out.2.2.trans f8 (fun _ _ e => .inr e)⟩)
              clear f8
              go_simp
              refine hK _ _ ⟨HS8.out, ?_⟩
              clear hK K
              refine wpAnyH_done (by kernel_rfl) ?_ _
              go_wp2_with fail
              refine leaves_cons (f := 38) (args := #[.pointer (some ⟨w.heap.size, 0, none⟩), .pointer (some ⟨w.heap.size + 1, 0, none⟩)]) (by simp) (by simp [go_sem]) ?_
              refine (catch_idle ⟨w.heap.size, 0, none⟩ ⟨w.heap.size + 1, 0, none⟩ _).mono ?_
              rintro e u' w9 ⟨rfl, rfl, rfl⟩
              show Leaves _ _ _ _ [] FrameMode.returning _)
            exact ⟨_, results_cells rfl _ _ _ _ _ _ _ _ _ _ rfl HS8.out.1 rfl HS8.out.2.1 Tryd.underlying26 rfl (by rw [hfs]; exact size36) (load_errno HS8.out.2.1), HEND.out _ HS8.out⟩
          · (
            refine wpOp_step rfl (fun K hK => ?_)
            rw [if_pos (by kernel_rfl)]
            refine wp_store_at 26 (.tmp 2) (.tmp 15) rfl w.heap.size 0 26 zeroR zeroR (by kernel_rfl) (by kernel_rfl) HSB.out.1 (by omega) (by rw [hfs]; exact size36) hfo ?_
            intro w7 hw7 hf7
            rw [laidAt_all _ _ rfl] at hw7
            have HS7 := Lib.hid (show Whole w7 w.heap.size 26 zeroR ∧ Whole w7 (w.heap.size + 1) 28 #[.int .i64 r] ∧ Fr (fun k => k = w.heap.size ∨ k = w.heap.size + 1) wb w7 from ⟨hw7, HSB.out.2.1.fr hf7 (fun e => by omega), HSB.out.2.2.trans hf7 (fun _ _ e => .inl e)⟩)
            clear hf7 hw7
            go_simp
            refine hK _ _ ⟨HS7.out, ?_⟩
            clear hK K)
            (
              refine wpAnyH_all (rs := [1]) (by kernel_rfl) (by simp) ?_
              intro i hi
              simp only [List.mem_cons, List.not_mem_nil, or_false] at hi
              subst hi)
            (
              refine wpOp_step rfl (fun K hK => ?_)
              have cz := HS7.out.2.1.cell 0
              rw [show (#[Value.int IntKind.i64 r])[0]? = some (Value.int IntKind.i64 r) from rfl] at cz
              go_simp
              refine hK _ _ ⟨HS7.out, ?_⟩
              clear hK K cz)
            (
              refine wpAnyH_all (rs := [3]) (by kernel_rfl) (by simp) ?_
              intro i hi
              simp only [List.mem_cons, List.not_mem_nil, or_false] at hi
              subst hi)
            (
              refine wpOp_step rfl (fun K hK => ?_)
              have c7 := HS7.out.2.1.cell 0
              rw [show (#[Value.int IntKind.i64 r])[0]? = some (Value.int IntKind.i64 r) from rfl] at c7
              have z7 := HS7.out.2.1.frozen 0
              have f8 : Fr (fun k => k = w.heap.size + 1) w7 (w7.setCell ⟨w.heap.size + 1, 0, none⟩ (.int .i64 r)) := Fr.setCell (S := fun k => k = w.heap.size + 1) (p := ⟨w.heap.size + 1, 0, none⟩) (Fr.refl _ w7) (fun _ => rfl) _
              have HS8 := Lib.hid (show Whole (w7.setCell ⟨w.heap.size + 1, 0, none⟩ (.int .i64 r)) w.heap.size 26 zeroR ∧ Whole (w7.setCell ⟨w.heap.size + 1, 0, none⟩ (.int .i64 r)) (w.heap.size + 1) 28 #[.int .i64 r] ∧ Fr (fun k => k = w.heap.size ∨ k = w.heap.size + 1) wb (w7.setCell ⟨w.heap.size + 1, 0, none⟩ (.int .i64 r)) from ⟨HS7.out.1.fr f8 (fun e => by omega), HS7.out.2.1.set 0 (.int .i64 r), HS7.out.2.2.trans f8 (fun _ _ e => .inr e)⟩)
              clear f8
              go_simp
              refine hK _ _ ⟨HS8.out, ?_⟩
              clear hK K
              refine wpAnyH_done (by kernel_rfl) ?_ _
              go_wp2_with fail
              refine leaves_cons (f := 38) (args := #[.pointer (some ⟨w.heap.size, 0, none⟩), .pointer (some ⟨w.heap.size + 1, 0, none⟩)]) (by simp) (by simp [go_sem]) ?_
              refine (catch_idle ⟨w.heap.size, 0, none⟩ ⟨w.heap.size + 1, 0, none⟩ _).mono ?_
              rintro e u' w9 ⟨rfl, rfl, rfl⟩
              show Leaves _ _ _ _ [] FrameMode.returning _)
            exact ⟨_, results_cells rfl _ _ _ _ _ _ _ _ _ _ rfl HS8.out.1 rfl HS8.out.2.1 Tryd.underlying26 rfl (by rw [hfs]; exact size36) (load_errno HS8.out.2.1), HEND.out _ HS8.out⟩
        · (
          refine wpOp_step rfl (fun K hK => ?_)
          have cz := HSB.out.2.1.cell 0
          rw [show (#[Value.int IntKind.i64 r])[0]? = some (Value.int IntKind.i64 r) from rfl] at cz
          go_simp
          refine hK _ _ ⟨HSB.out, ?_⟩
          clear hK K cz)
          (
            refine wpAnyH_all (rs := [0]) (by kernel_rfl) (by simp) ?_
            intro i hi
            simp only [List.mem_cons, List.not_mem_nil, or_false] at hi
            subst hi)
          (
            refine wpOp_step rfl (fun K hK => ?_)
            rw [if_pos (by kernel_rfl)]
            refine wp_load_row 26 (.tmp 2) rfl w.heap.size (by kernel_rfl) 26 zeroR _ _ HSB.out.1 Tryd.underlying26 rfl (by rw [hfs]; exact size36) ?_
            refine hK _ _ ⟨HSB.out, ?_⟩
            clear hK K)
          (
            refine wpAnyH_all (rs := [2]) (by kernel_rfl) (by simp) ?_
            intro i hi
            simp only [List.mem_cons, List.not_mem_nil, or_false] at hi
            subst hi)
          (
            refine wpOp_step rfl (fun K hK => ?_)
            rw [if_pos (by kernel_rfl)]
            refine wp_store_at 26 (.tmp 2) (.tmp 15) rfl w.heap.size 0 26 zeroR zeroR (by kernel_rfl) (by kernel_rfl) HSB.out.1 (by omega) (by rw [hfs]; exact size36) hfo ?_
            intro w7 hw7 hf7
            rw [laidAt_all _ _ rfl] at hw7
            have HS7 := Lib.hid (show Whole w7 w.heap.size 26 zeroR ∧ Whole w7 (w.heap.size + 1) 28 #[.int .i64 r] ∧ Fr (fun k => k = w.heap.size ∨ k = w.heap.size + 1) wb w7 from ⟨hw7, HSB.out.2.1.fr hf7 (fun e => by omega), HSB.out.2.2.trans hf7 (fun _ _ e => .inl e)⟩)
            clear hf7 hw7
            go_simp
            refine hK _ _ ⟨HS7.out, ?_⟩
            clear hK K)
          (
            refine wpAnyH_all (rs := [3]) (by kernel_rfl) (by simp) ?_
            intro i hi
            simp only [List.mem_cons, List.not_mem_nil, or_false] at hi
            subst hi)
          (
            refine wpOp_step rfl (fun K hK => ?_)
            have c7 := HS7.out.2.1.cell 0
            rw [show (#[Value.int IntKind.i64 r])[0]? = some (Value.int IntKind.i64 r) from rfl] at c7
            have z7 := HS7.out.2.1.frozen 0
            have f8 : Fr (fun k => k = w.heap.size + 1) w7 (w7.setCell ⟨w.heap.size + 1, 0, none⟩ (.int .i64 r)) := Fr.setCell (S := fun k => k = w.heap.size + 1) (p := ⟨w.heap.size + 1, 0, none⟩) (Fr.refl _ w7) (fun _ => rfl) _
            have HS8 := Lib.hid (show Whole (w7.setCell ⟨w.heap.size + 1, 0, none⟩ (.int .i64 r)) w.heap.size 26 zeroR ∧ Whole (w7.setCell ⟨w.heap.size + 1, 0, none⟩ (.int .i64 r)) (w.heap.size + 1) 28 #[.int .i64 r] ∧ Fr (fun k => k = w.heap.size ∨ k = w.heap.size + 1) wb (w7.setCell ⟨w.heap.size + 1, 0, none⟩ (.int .i64 r)) from ⟨HS7.out.1.fr f8 (fun e => by omega), HS7.out.2.1.set 0 (.int .i64 r), HS7.out.2.2.trans f8 (fun _ _ e => .inr e)⟩)
            clear f8
            go_simp
            refine hK _ _ ⟨HS8.out, ?_⟩
            clear hK K
            refine wpAnyH_done (by kernel_rfl) ?_ _
            go_wp2_with fail
            refine leaves_cons (f := 38) (args := #[.pointer (some ⟨w.heap.size, 0, none⟩), .pointer (some ⟨w.heap.size + 1, 0, none⟩)]) (by simp) (by simp [go_sem]) ?_
            refine (catch_idle ⟨w.heap.size, 0, none⟩ ⟨w.heap.size + 1, 0, none⟩ _).mono ?_
            rintro e u' w9 ⟨rfl, rfl, rfl⟩
            show Leaves _ _ _ _ [] FrameMode.returning _)
          exact ⟨_, results_cells rfl _ _ _ _ _ _ _ _ _ _ rfl HS8.out.1 rfl HS8.out.2.1 Tryd.underlying26 rfl (by rw [hfs]; exact size36) (load_errno HS8.out.2.1), HEND.out _ HS8.out⟩)
end Go.Proofs.YtppddpbacpeadaaDoor

/- What is proved: one call of what pull tells: the first entry that is left, and all of its name are skipped. Conditions: the list's cells are there. -/
import Derived.Test.YtinjednmamkjgaaMga
import Derived.BigQuiet
import Derived.Deep.Cut
namespace Go.Proofs.Ytinjednmamkjgaa
open Go.RowKit Go.Sort Go.Shelf
set_option linter.unusedVariables false

/-- A call that answers what a cell's block holds, and a slot. -/
theorem results_cell_slotM {P : Program} {fn : Func} {p u : Tmp} {ty : TypeId} (h : fn.results = #[.cell p ty, .tmp u]) (tmps : Array Value) (w : World) (g : Nat) (t : TypeId) (cs : Array Value) (d : TypeDesc)
    (hp : tmps.getD p undef = .pointer (some ⟨g, 0, none⟩)) (hg : Whole w g t cs)
    (hu : P.underlying ty = some d) (hd : (match d with | .struct _ | .array _ _ => true | _ => false) = true) (hi : (P.info? ty).map (·.size) = some cs.size) :
    (results fn tmps).run P w = .ok (.tuple #[.agg cs, tmps.getD u undef]) w := by
  have hp' : tmps[p]?.getD undef = .pointer (some ⟨g, 0, none⟩) := by simpa using hp
  have hg' : w.heap[g]? = some (.cells cs t (0, 0)) := hg
  simp [results, h, hp', asAddr, run_loadVar_row w g t ty cs (0, 0) d hg' hu hd hi]
theorem build_zero (w : World) : (Instr.build 27 #[]).run Try.prog w = .ok (.agg zeroE) w := by kernel_rfl
/-- Where a pull keeps what is left: in blocks from C on, below D. -/
def PullAt (C D : Nat) (w : World) (B : Nat) (left : List Ent) : Prop := (C ≤ B ∧ B < D) ∧ ∃ A c, Whole w B 22 #[.slice A left.length c] ∧ left.length ≤ c ∧ (∀ ad, A = some ad → ad.block ≠ B ∧ C ≤ ad.block ∧ ad.block < D) ∧ Lies w A (flatE left)
theorem PullAt.fr {C D : Nat} {S : Nat → Prop} {w w' : World} {B : Nat} {left : List Ent} (h : PullAt C D w B left) (f : Fr S w w') (hS : ∀ k, C ≤ k → k < D → ¬ S k) : PullAt C D w' B left := by
  obtain ⟨hB, A, c, h1, h2, h3, h4⟩ := h
  exact ⟨hB, A, c, h1.fr f (hS B hB.1 hB.2), h2, h3, h4.fr f (fun ad e => hS _ (h3 ad e).2.1 (h3 ad e).2.2)⟩
theorem tlE_block {A : Option Addr} {c m : Nat} {ad : Addr} (h : tlE A c m = some ad) : ∃ a0, A = some a0 ∧ ad.block = a0.block := by
  unfold tlE at h
  split at h
  · exact ⟨ad, h, rfl⟩
  · cases A with
    | none => cases h
    | some a0 =>
      cases h
      refine ⟨a0, rfl, ?_⟩
      unfold Addr.add
      split <;> rfl
theorem PullAt.cut {C D : Nat} {w : World} {B : Nat} {x : Ent} {r : List Ent} {A : Option Addr} {c : Nat} (hB : C ≤ B ∧ B < D) (h1 : Whole w B 22 #[.slice A (x :: r).length c]) (h2 : (x :: r).length ≤ c) (h3 : ∀ ad, A = some ad → ad.block ≠ B ∧ C ≤ ad.block ∧ ad.block < D) (h4 : Lies w A (flatE (x :: r))) :
    PullAt C D (w.setCell ⟨B, 0, none⟩ (.slice (tlE A c 1) r.length (c - 1))) B r := by
  have f : Fr (fun k => k = B) w (w.setCell ⟨B, 0, none⟩ (.slice (tlE A c 1) r.length (c - 1))) := Fr.setCell (S := fun k => k = B) (p := ⟨B, 0, none⟩) (Fr.refl _ w) (fun _ => rfl) _
  have h5 : ∀ ad, tlE A c 1 = some ad → ad.block ≠ B ∧ C ≤ ad.block ∧ ad.block < D := fun ad e => by
    obtain ⟨a0, h6, h7⟩ := tlE_block e
    rw [h7]; exact h3 a0 h6
  rw [List.length_cons] at h2
  refine ⟨hB, tlE A c 1, c - 1, h1.set 0 _, by omega, h5, ?_⟩
  exact (h4.tlE c 1 (by rw [List.length_cons]; omega)).fr f (fun ad e => (h5 ad e).1)
def restP : List Ent → List Ent
  | [] => []
  | x :: r => skip x r
theorem restP_len (l : List Ent) : (restP l).length ≤ l.length := by
  cases l with
  | nil => exact Nat.le_refl _
  | cons x r => have := skip_len x r; simp only [restP, List.length_cons]; omega

set_option maxHeartbeats 1600000 in
set_option maxRecDepth 100000 in
theorem Tpull1_nil (C D B : Nat) (w : World) (h : PullAt C D w B []) :
    Calls Try.prog 26 #[.pointer (some ⟨B, 0, none⟩)] w fun e w' => e = .returned (.tuple #[.agg zeroE, .bool false]) ∧ Fr (fun _ => False) w w' := by
  obtain ⟨hB, A, c, h1, h2, h3, h4⟩ := h
  obtain ⟨w1, hw1⟩ : ∃ w1, w.alloc (.cells zeroE 27) = w1 := ⟨_, rfl⟩
  have HZ := Lib.hid (show Whole w1 w.heap.size 27 zeroE from by subst hw1; exact Whole.new w 27 zeroE)
  have HF1 := Lib.hid (show Fr (fun _ => False) w w1 from by subst hw1; exact (Fr.refl _ w).alloc _)
  have c1 : w1.cell? ⟨B, 0, none⟩ = some (.slice A 0 c) := HF1.out.cell (h1.cell 0) (fun e => e)
  unfold zeroE at hw1
  simp [List.replicate] at hw1
  clear h1 h2 h3 h4
  go_enter Try.func26, Try.ntmps26
  go_wp2_with (refine wpList_store_at rfl 27 _ _ rfl w.heap.size 0 27 _ zeroE rfl rfl HZ.out (by decide) size_ent (entV_all default) ?_; intro w6 hw6 hf6)
  rw [laidAt_all _ _ rfl] at hw6
  refine bodyPost_ret (v := .tuple #[.agg zeroE, .bool false]) (results_cell_slotM (p := 1) (u := 2) rfl _ _ _ _ _ _ rfl hw6 underE rfl size_ent) rfl ?_
  exact ⟨rfl, HF1.out.trans hf6 (fun i hi e => by omega)⟩

theorem Whole.all_rangeM {w : World} {g : Nat} {t : TypeId} {cs : Array Value} (h : Whole w g t cs) : w.rangeAt g 0 cs.toList := fun j v hv => by
  rw [Nat.zero_add, h.cell, ← Array.getElem?_toList]; exact hv

set_option maxHeartbeats 3200000 in
set_option maxRecDepth 100000 in
theorem Tpull1_cons (C D B : Nat) (x : Ent) (r0 : List Ent) (hn : r0.length ≤ 99999) (w : World) (hD : D ≤ w.heap.size) (h : PullAt C D w B (x :: r0)) :
    Calls Try.prog 26 #[.pointer (some ⟨B, 0, none⟩)] w fun e w' => e = .returned (.tuple #[.agg (entV x).toArray, .bool true]) ∧ PullAt C D w' B (skip x r0) ∧ Fr (fun k => k = B) w w' := by
  have HB0 := Lib.hid h
  obtain ⟨hB, A, c, h1, h2, h3, h4⟩ := h
  have HBr := Lib.hid hB
  have hsl : ∀ (A : Option Addr) (n c : Nat), 1 ≤ n → ∀ w, (Instr.slice 22 (.slice A n c) (some (.int .i64 1)) none none).run Try.prog w = .ok (.slice (tlE A c 1) (n - 1) (c - 1)) w := fun A n c hh w => slice_tlE A n c 1 hh w
  have HSL := Lib.hid hsl
  have hBlt := h1.lt
  -- the result's block
  obtain ⟨w1, hw1⟩ : ∃ w1, w.alloc (.cells zeroE 27) = w1 := ⟨_, rfl⟩
  have HZ := Lib.hid (show Whole w1 w.heap.size 27 zeroE from by subst hw1; exact Whole.new w 27 zeroE)
  have hF1 : Fr (fun _ => False) w w1 := by subst hw1; exact (Fr.refl _ w).alloc _
  have HF1 := Lib.hid hF1
  have HS1 : Hid (w1.heap.size = w.heap.size + 1) := Lib.hid (by subst hw1; exact World.size_alloc _ _)
  -- the first entry's block
  obtain ⟨w2, hw2⟩ : ∃ w2, w1.alloc (.cells zeroE 27) = w2 := ⟨_, rfl⟩
  have HZ2 := Lib.hid (show Whole w2 w1.heap.size 27 zeroE from by subst hw2; exact Whole.new w1 27 zeroE)
  have hF2 : Fr (fun _ => False) w1 w2 := by subst hw2; exact (Fr.refl _ w1).alloc _
  have HF2 := Lib.hid hF2
  have HS2 : Hid (w2.heap.size = w.heap.size + 2) := Lib.hid (by subst hw2; rw [World.size_alloc, HS1.out])
  obtain ⟨b, o, hA⟩ := h4.someE (by simp)
  subst hA
  have c1 : w1.cell? ⟨B, 0, none⟩ = some (.slice (some ⟨b, o, none⟩) (r0.length + 1) c) := hF1.cell (h1.cell 0) (fun e => e)
  have HR1 := Lib.hid (show w1.rangeAt b o (entV x).toArray.toList from fun j v hv => by
    have := cell_ent (i := 0) h4 rfl hF1 j v hv
    rwa [Nat.zero_mul, Nat.add_zero] at this)
  have hcs := entV_size x
  have HCA := Lib.hid (entV_all x)
  have HCN := Lib.hid (entV_name x)
  obtain ⟨cx, hcx⟩ : ∃ cx, (entV x).toArray = cx := ⟨_, rfl⟩
  rw [hcx] at hcs HCA HCN HR1
  have HCX := Lib.hid hcx
  have hzs := zeroE_size
  obtain ⟨n, hn0⟩ : ∃ n, r0.length + 1 = n := ⟨_, rfl⟩
  have HNn := Lib.hid hn0
  rw [hn0] at c1
  have hpos : ¬ ((n : Int) = 0) := by omega
  have hpos1 : (0 : Int) < n := by omega
  have hnn : 0 < n := by omega
  obtain ⟨S, hS⟩ : ∃ S, strB x.name = S := ⟨_, rfl⟩
  rw [hS] at HCN
  have HSn := Lib.hid hS
  have HG : Hid (∃ G, skip x (x :: r0) = G ∧ G = skip x r0) := Lib.hid ⟨_, rfl, by rw [skip, List.dropWhile_cons, if_pos (by simp)]; rfl⟩
  obtain ⟨G, hG1, hG2⟩ := HG.out
  have HG1 := Lib.hid hG1
  have HG2 := Lib.hid hG2
  obtain ⟨Z, hZ⟩ : ∃ Z, zeroE = Z := ⟨_, rfl⟩
  unfold zeroE at hw1 hw2
  simp [List.replicate] at hw1 hw2
  rw [hZ] at hzs HZ HZ2
  clear hB h1 h2 h3 h4 hcx hS hG1 hG2 hZ hsl hF1 hF2 hn0
  go_enter Try.func26, Try.ntmps26
  go_wp2_with (first
    | (refine wpList_load_cx rfl (.tmp 9) rfl b o rfl cx hcs HR1.out ?_)
    | (refine wpList_store_at rfl 27 (.tmp 3) _ rfl w1.heap.size 0 27 Z cx rfl rfl HZ2.out (by rw [hzs, hcs]; exact Nat.le_refl _) (by rw [hcs]; exact size_ent) HCA.out ?_
       intro w3 hw3 hf3
       rw [laidAt_all _ _ (by rw [hzs, hcs])] at hw3
       have HW3 := Lib.hid hw3
       have HF3 := Lib.hid (show Fr (fun _ => False) w w3 from (HF1.out.trans HF2.out (fun _ _ e => e)).trans hf3 (fun i hi e => by have := HS1.out; omega))
       have HZ3 := Lib.hid (show Whole w3 w.heap.size 27 Z from (HZ.out.fr HF2.out (fun e => e)).fr hf3 (fun e => by have := HS1.out; omega))
       clear hw3 hf3))
  have HP3 := Lib.hid (HB0.out.fr HF3.out (fun _ _ _ e => e))
  simp only [Act.put]
  go_loopg [] n (fun kx wr => ∃ r : List Ent, r.length ≤ kx ∧ r.length ≤ n ∧ skip x r = G ∧ PullAt C D wr B r ∧ Fr (fun k => k = B) w3 wr)
  case atStart => exact ⟨x :: r0, by rw [List.length_cons, HNn.out]; exact Nat.le_refl _, by rw [List.length_cons, HNn.out]; exact Nat.le_refl _, HG1.out, HP3.out, Fr.refl _ _⟩
  case round =>
    obtain ⟨r, hkx, hrn, hsk, ⟨p0, A2, k2, p1, p2, p3, p4⟩, hf⟩ := hrel
    obtain ⟨wo, rfl⟩ : ∃ wo, wo = wr := ⟨wr, rfl⟩
    have HSK := Lib.hid hsk
    have HFo := Lib.hid hf
    have HPo := Lib.hid p1
    have b3 : w1.heap.size ≠ B := by have := HS1.out; omega
    have HC3 : Hid (∀ q : Later wo, q.w'.cell? ⟨w1.heap.size, 0, none⟩ = some (.string S)) := Lib.hid (fun q => by
      have hw := (HW3.out.fr hf b3).fr q.fr (fun e => e)
      rw [hw.cell]; exact HCN.out)
    have c3 := HC3.out
    have HCB : Hid (∀ q : Later wo, q.w'.cell? ⟨B, 0, none⟩ = some (.slice A2 r.length k2)) := Lib.hid (fun q => by rw [(p1.fr q.fr (fun e => e)).cell]; rfl)
    have cB := HCB.out
    have HPx : Hid (PullAt C D wo B r) := Lib.hid ⟨p0, A2, k2, p1, p2, p3, p4⟩
    cases r with
    | nil =>
      have HGn : Hid (skip x r0 = []) := Lib.hid (by rw [← HG2.out, ← HSK.out]; rfl)
      have hno : ¬ ((0 : Int) > 0) := by omega
      simp only [List.length_nil] at cB
      clear hsk p0 p1 p2 p3 p4 c3 HC3 HCB
      (
        go_upto_region 4 with fail
        refine wp_region_later (w0 := wo) (Fr.refl _ _) (by kernel_rfl) (by kernel_rfl) ?_
        repeat (quiet_step (fail))
        refine wpQuiet_nil ?_
        intro _ hw'
        obtain ⟨q, hw''⟩ := hw'
        subst hw'')
      (
        have HWq := Lib.hid ((HW3.out.fr HFo.out b3).fr q.fr (fun e => e))
        have HZq := Lib.hid ((HZ3.out.fr HFo.out (fun e => by omega)).fr q.fr (fun e => e))
        go_wp2_with (first
          | (refine wpList_load_cx rfl (.tmp 3) rfl w1.heap.size 0 rfl cx hcs HWq.out.all_rangeM ?_)
          | (refine wpList_store_at rfl 27 (.tmp 1) _ rfl w.heap.size 0 27 Z cx rfl rfl HZq.out (by rw [hzs, hcs]; exact Nat.le_refl _) (by rw [hcs]; exact size_ent) HCA.out ?_
             intro w6 hw6 hf6
             rw [laidAt_all _ _ (by rw [hzs, hcs])] at hw6
             have HW6 := Lib.hid hw6
             have HF6 := Lib.hid hf6
             clear hw6 hf6))
        refine bodyPost_ret (v := .tuple #[.agg cx, .bool true]) (results_cell_slotM (p := 1) (u := 2) rfl _ _ _ _ _ _ rfl HW6.out underE rfl (by rw [hcs]; exact size_ent)) rfl ?_
        refine ⟨by rw [HCX.out], by rw [HGn.out]; exact (HPx.out.fr q.fr (fun _ _ _ e => e)).fr HF6.out (fun k _ hk e => by omega), ?_⟩
        exact (((HF3.out.mono (T := fun k => k = B) (fun _ _ e => e.elim)).trans HFo.out (fun _ _ e => e)).trans q.fr (fun _ _ e => e.elim)).trans HF6.out (fun i hi e => by omega))
    | cons y r =>
      obtain ⟨b2, o2, hA⟩ := p4.someE (by simp)
      subst hA
      have HCY : Hid (∀ q : Later wo, q.w'.cell? ⟨b2, o2, none⟩ = some (.string (strB y.name))) := Lib.hid (fun q => by
        have := name_at (i := 0) p4 rfl q.fr
        rwa [Nat.zero_mul, Nat.add_zero] at this)
      have cY := HCY.out
      obtain ⟨m, hm⟩ : ∃ m, (y :: r).length = m := ⟨_, rfl⟩
      have HMm := Lib.hid hm
      rw [hm] at cB
      have hm0 : (0 : Int) < m := by rw [← hm]; simp
      have hm1 : 1 ≤ m := by omega
      have hmN : 0 < m := by omega
      have hmd : decide (0 < m) = true := by rw [decide_eq_true_eq]; omega
      by_cases hyx : y.name = x.name
      · have HS2 : Hid (skip x r = G) := Lib.hid (by rw [← HSK.out, skip, skip, List.dropWhile_cons, if_pos (by simp [hyx])])
        rw [hyx, HSn.out] at cY
        have s1 := HSL.out (some ⟨b2, o2, none⟩) m k2 hm1
        have HCut := Lib.hid (fun w' (f : Fr (fun _ => False) wo w') => PullAt.cut (w := w') p0 (p1.fr f (fun e => e)) p2 p3 (p4.fr f (fun _ _ e => e)))
        have hr1 : m - 1 = r.length := by rw [← hm]; simp
        have HFz := Lib.hid (fun w' (f : Fr (fun _ => False) wo w') => (p1.fr f (fun e => e)).frozen 0)
        obtain ⟨A3, hA3⟩ : ∃ A3, tlE (some ⟨b2, o2, none⟩) k2 1 = A3 := ⟨_, rfl⟩
        obtain ⟨m1, hm1'⟩ : ∃ m1, m - 1 = m1 := ⟨_, rfl⟩
        obtain ⟨k3, hk3⟩ : ∃ k3, k2 - 1 = k3 := ⟨_, rfl⟩
        rw [hA3, hm1', hk3] at s1
        rw [hA3, ← hr1, hm1', hk3] at HCut
        have HM1 : Hid (r.length = m1) := Lib.hid (by rw [← hm1', hr1])
        clear hsk p0 p1 p2 p3 p4 c3 HC3 HCB hm hr1 hA3 hm1' hk3
        have c3 := fun q : Later wo => (by
          have hw := (HW3.out.fr HFo.out b3).fr q.fr (fun e => e)
          rw [hw.cell]; exact HCN.out : q.w'.cell? ⟨w1.heap.size, 0, none⟩ = some (.string S))
        (
          go_upto_region 4 with fail
          refine wp_region_later (w0 := wo) (Fr.refl _ _) (by kernel_rfl) (by kernel_rfl) ?_
          repeat (quiet_step (fail))
          refine wpQuiet_nil ?_
          intro _ hw'
          obtain ⟨q, hw''⟩ := hw'
          subst hw'')
        have cz := HFz.out _ q.fr
        have cB2 := cB q
        go_wp2_with fail
        go_roundg m1
        case measure => have h1 := HM1.out; have h2 := hkx; rw [List.length_cons] at h2; omega
        case rel =>
          have hc2 := HCut.out _ q.fr
          refine ⟨r, by rw [HM1.out]; exact Nat.le_refl _, by rw [List.length_cons] at hrn; omega, HS2.out, hc2, ?_⟩
          exact (HFo.out.trans q.fr (fun _ _ e => e.elim)).trans (Fr.setCell (S := fun k => k = B) (p := ⟨B, 0, none⟩) (Fr.refl _ q.w') (fun _ => rfl) _) (fun _ _ e => e)
      · have HGn : Hid (skip x r0 = y :: r) := Lib.hid (by rw [← HG2.out, ← HSK.out, skip, List.dropWhile_cons, if_neg (by simp [hyx])])
        obtain ⟨S2, hS2⟩ : ∃ S2, strB y.name = S2 := ⟨_, rfl⟩
        have hne : ¬ S2.toList = S.toList := by rw [← hS2, ← HSn.out, strB_list, strB_list]; exact hyx
        have hne2 : (S2.toList == S.toList) = false := beq_eq_false_iff_ne.2 hne
        have hne3 : ¬ S2 = S := fun e => hne (by rw [e])
        have hne4 : decide (S2 = S) = false := decide_eq_false hne3
        rw [hS2] at cY
        clear hsk p0 p1 p2 p3 p4 HC3 HCB hm hS2
        (
          go_upto_region 4 with fail
          refine wp_region_later (w0 := wo) (Fr.refl _ _) (by kernel_rfl) (by kernel_rfl) ?_
          repeat (quiet_step (fail))
          refine wpQuiet_nil ?_
          intro _ hw'
          obtain ⟨q, hw''⟩ := hw'
          subst hw'')
        (
          have HWq := Lib.hid ((HW3.out.fr HFo.out b3).fr q.fr (fun e => e))
          have HZq := Lib.hid ((HZ3.out.fr HFo.out (fun e => by omega)).fr q.fr (fun e => e))
          go_wp2_with (first
            | (refine wpList_load_cx rfl (.tmp 3) rfl w1.heap.size 0 rfl cx hcs HWq.out.all_rangeM ?_)
            | (refine wpList_store_at rfl 27 (.tmp 1) _ rfl w.heap.size 0 27 Z cx rfl rfl HZq.out (by rw [hzs, hcs]; exact Nat.le_refl _) (by rw [hcs]; exact size_ent) HCA.out ?_
               intro w6 hw6 hf6
               rw [laidAt_all _ _ (by rw [hzs, hcs])] at hw6
               have HW6 := Lib.hid hw6
               have HF6 := Lib.hid hf6
               clear hw6 hf6))
          refine bodyPost_ret (v := .tuple #[.agg cx, .bool true]) (results_cell_slotM (p := 1) (u := 2) rfl _ _ _ _ _ _ rfl HW6.out underE rfl (by rw [hcs]; exact size_ent)) rfl ?_
          refine ⟨by rw [HCX.out], by rw [HGn.out]; exact (HPx.out.fr q.fr (fun _ _ _ e => e)).fr HF6.out (fun k _ hk e => by omega), ?_⟩
          exact (((HF3.out.mono (T := fun k => k = B) (fun _ _ e => e.elim)).trans HFo.out (fun _ _ e => e)).trans q.fr (fun _ _ e => e.elim)).trans HF6.out (fun i hi e => by omega))
end Go.Proofs.Ytinjednmamkjgaa

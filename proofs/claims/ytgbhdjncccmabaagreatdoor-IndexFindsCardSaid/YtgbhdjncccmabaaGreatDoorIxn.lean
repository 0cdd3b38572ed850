/- What is proved: an index's At by the program. Conditions: its cells are there. -/
import Derived.Test.YtgbhdjncccmabaaGreatDoorIxm
import Derived.Deep.QuietTactic
import Derived.BigQuiet
namespace Go.Proofs.YtgbhdjncccmabaaGreatDoor
open Go.RowKit
set_option linter.unusedVariables false

theorem yieldsIf_build {P : Program} {ops : Array Oper} {S : World → Prop} {op : Oper} {a : Act} (hw : Region.wanted op (yielded ops a.tmps) = true) (t : TypeId) (parts : Array (Nat × Operand)) (ho : op.op = .build t parts)
    (vals : Array (Nat × Value)) (hvals : (parts.map fun (i, x) => (i, a.eval x)) = vals) (v : Value) (hv : ∀ w, (Instr.build t vals).run P w = .ok v w) : YieldsIf P ops S op v a :=
  .inl ⟨hw, fun w _ => by
    unfold execOp
    simp [ho, hvals, hv]⟩
theorem zpl : Pl.cells ⟨0, 0, 0⟩ = zeroPl := by kernel_rfl
def atI (n : Nat) (ks ss ts : Nat → Nat) (k : Int) : Pl := if 0 ≤ k ∧ k < n then ⟨ks k.toNat, ts k.toNat, ss k.toNat⟩ else ⟨0, 0, 0⟩
theorem build_plc0 (id : List Value) (a : Int) (s : Int) (hi : id.length = 32) (w : World) : (Instr.build 43 #[(0, .agg id.toArray), (1, .int .i64 a), (2, .int .u32 s)]).run Tryz.prog w = .ok (.agg (id ++ [Value.int .i64 a, Value.int .u32 s]).toArray) w := by
  rcases id with _ | ⟨i0, _ | ⟨i1, _ | ⟨i2, _ | ⟨i3, _ | ⟨i4, _ | ⟨i5, _ | ⟨i6, _ | ⟨i7, _ | ⟨i8, _ | ⟨i9, _ | ⟨i10, _ | ⟨i11, _ | ⟨i12, _ | ⟨i13, _ | ⟨i14, _ | ⟨i15, _ | ⟨i16, _ | ⟨i17, _ | ⟨i18, _ | ⟨i19, _ | ⟨i20, _ | ⟨i21, _ | ⟨i22, _ | ⟨i23, _ | ⟨i24, _ | ⟨i25, _ | ⟨i26, _ | ⟨i27, _ | ⟨i28, _ | ⟨i29, _ | ⟨i30, _ | ⟨i31, _ | ⟨i32, id⟩⟩⟩⟩⟩⟩⟩⟩⟩⟩⟩⟩⟩⟩⟩⟩⟩⟩⟩⟩⟩⟩⟩⟩⟩⟩⟩⟩⟩⟩⟩⟩⟩
  all_goals first | (simp only [List.length_cons, List.length_nil] at hi; omega) | kernel_rfl
theorem build_plc (id : Nat) (p s : Int) (w : World) : (Instr.build 43 #[(0, .agg (idC (dgt id))), (1, .int .i64 p), (2, .int .u32 s)]).run Tryz.prog w = .ok (.agg (Pl.cells ⟨id, p, s⟩)) w := by
  have := build_plc0 (idC (dgt id)).toList p s (by rw [Array.length_toList, idC_size]) w
  rw [Array.toArray_toList] at this
  rw [this, show Pl.cells ⟨id, p, s⟩ = ((idC (dgt id)).toList ++ [Value.int .i64 p, Value.int .u32 s]).toArray from Array.toList_inj.1 (by simp [Pl.cells])]

set_option maxHeartbeats 1600000 in
set_option maxRecDepth 100000 in
theorem IAt_nil (k : Int) (w : World) : Calls Tryz.prog 37 #[.pointer none, .int .i64 k] w fun e w' => e = .returned (.agg (Pl.cells ⟨0, 0, 0⟩)) ∧ Fr (fun _ => False) w w' := by
  obtain ⟨w1, hw1⟩ : ∃ w1, w.alloc (.cells zeroPl 43) = w1 := ⟨_, rfl⟩
  have HZ := Lib.hid (show Whole w1 w.heap.size 43 zeroPl from by subst hw1; exact Whole.new w 43 zeroPl)
  have HF1 := Lib.hid (show Fr (fun _ => False) w w1 from by subst hw1; exact (Fr.refl _ w).alloc _)
  have HLN := Lib.hid (fun w => ILen_nil w)
  have HZP := Lib.hid zpl
  unfold zeroPl at hw1
  simp [List.replicate] at hw1
  by_cases hk : k < 0
  · go_enter Tryz.func37, Tryz.ntmps37
    go_wp2_with (refine wpList_store_at rfl 43 _ _ rfl w.heap.size 0 43 zeroPl zeroPl rfl rfl HZ.out (by decide) size_pl (by rw [← zpl]; exact plC_one _) ?_; intro w3 hw3 hf3; rw [laidAt_all _ _ rfl] at hw3; have HW3 := Lib.hid hw3; have HF3 := Lib.hid (HF1.out.trans hf3 (fun i hi e => by omega)); clear hw3 hf3)
    refine bodyPost_ret (v := .agg zeroPl) (results_cell_row (p := 4) rfl _ _ _ _ _ _ _ rfl HW3.out Tryz.underlying43 rfl size_pl) rfl ?_
    exact ⟨by rw [HZP.out], HF3.out⟩
  · have hk0 : (0 : Int) ≤ k := by omega
    go_enter Tryz.func37, Tryz.ntmps37
    go_wp2_with (first
      | (go_at_call 16; refine (HLN.out _).mono ?_; rintro e w' ⟨rfl, rfl⟩)
      | (refine wpList_store_at rfl 43 _ _ rfl w.heap.size 0 43 zeroPl zeroPl rfl rfl HZ.out (by decide) size_pl (by rw [← zpl]; exact plC_one _) ?_; intro w3 hw3 hf3; rw [laidAt_all _ _ rfl] at hw3; have HW3 := Lib.hid hw3; have HF3 := Lib.hid (HF1.out.trans hf3 (fun i hi e => by omega)); clear hw3 hf3))
    refine bodyPost_ret (v := .agg zeroPl) (results_cell_row (p := 4) rfl _ _ _ _ _ _ _ rfl HW3.out Tryz.underlying43 rfl size_pl) rfl ?_
    exact ⟨by rw [HZP.out], HF3.out⟩

set_option maxHeartbeats 3200000 in
set_option maxRecDepth 100000 in
theorem IAt_any (X n : Nat) (A1 A2 A3 : Option Addr) (c1 c2 c3 : Nat) (f ks ss ts : Nat → Nat) (of : Nat) (k : Int) (hn : n ≤ 1000) (hts : ∀ j, j < n → ts j < 4294967296) (w : World) (h : IX w X n A1 c1 A2 c2 A3 c3 f ks ss ts of) :
    Calls Tryz.prog 37 #[.pointer (some ⟨X, 0, none⟩), .int .i64 k] w fun e w' => e = .returned (.agg (atI n ks ss ts k).cells) ∧ Fr (fun _ => False) w w' := by
  obtain ⟨w1, hw1⟩ : ∃ w1, w.alloc (.cells zeroPl 43) = w1 := ⟨_, rfl⟩
  have HZ := Lib.hid (show Whole w1 w.heap.size 43 zeroPl from by subst hw1; exact Whole.new w 43 zeroPl)
  have hF1 : Fr (fun _ => False) w w1 := by subst hw1; exact (Fr.refl _ w).alloc _
  have HF1 := Lib.hid hF1
  have HX := Lib.hid (h.fr hF1)
  have HX0 := Lib.hid h
  have HLN := Lib.hid (fun w (h : IX w X n A1 c1 A2 c2 A3 c3 f ks ss ts of) => ILen_any X n A1 A2 A3 c1 c2 c3 f ks ss ts of w h)
  have HZP := Lib.hid zpl
  have HAT : Hid (atI n ks ss ts k = if 0 ≤ k ∧ k < n then ⟨ks k.toNat, ts k.toNat, ss k.toNat⟩ else ⟨0, 0, 0⟩) := Lib.hid rfl
  unfold zeroPl at hw1
  simp [List.replicate] at hw1
  clear h hF1
  by_cases hk : k < 0
  · have HA : Hid (atI n ks ss ts k = ⟨0, 0, 0⟩) := Lib.hid (by rw [HAT.out, if_neg (by omega)])
    go_enter Tryz.func37, Tryz.ntmps37
    go_wp2_with (refine wpList_store_at rfl 43 _ _ rfl w.heap.size 0 43 zeroPl zeroPl rfl rfl HZ.out (by decide) size_pl (by rw [← zpl]; exact plC_one _) ?_; intro w3 hw3 hf3; rw [laidAt_all _ _ rfl] at hw3; have HW3 := Lib.hid hw3; have HF3 := Lib.hid (HF1.out.trans hf3 (fun i hi e => by omega)); clear hw3 hf3)
    refine bodyPost_ret (v := .agg zeroPl) (results_cell_row (p := 4) rfl _ _ _ _ _ _ _ rfl HW3.out Tryz.underlying43 rfl size_pl) rfl ?_
    exact ⟨by rw [HA.out, HZP.out], HF3.out⟩
  · have hk0 : (0 : Int) ≤ k := by omega
    by_cases hkn : (n : Int) ≤ k
    · have HA : Hid (atI n ks ss ts k = ⟨0, 0, 0⟩) := Lib.hid (by rw [HAT.out, if_neg (by omega)])
      go_enter Tryz.func37, Tryz.ntmps37
      go_wp2_with (first
        | (go_at_call 16; refine (HLN.out _ HX.out).mono ?_; rintro e w' ⟨rfl, rfl⟩)
        | (refine wpList_store_at rfl 43 _ _ rfl w.heap.size 0 43 zeroPl zeroPl rfl rfl HZ.out (by decide) size_pl (by rw [← zpl]; exact plC_one _) ?_; intro w3 hw3 hf3; rw [laidAt_all _ _ rfl] at hw3; have HW3 := Lib.hid hw3; have HF3 := Lib.hid (HF1.out.trans hf3 (fun i hi e => by omega)); clear hw3 hf3))
      refine bodyPost_ret (v := .agg zeroPl) (results_cell_row (p := 4) rfl _ _ _ _ _ _ _ rfl HW3.out Tryz.underlying43 rfl size_pl) rfl ?_
      exact ⟨by rw [HA.out, HZP.out], HF3.out⟩
    · obtain ⟨m, rfl⟩ : ∃ m : Nat, k = m := ⟨k.toNat, by omega⟩
      have hm : m < n := by omega
      have HA : Hid (atI n ks ss ts m = ⟨ks m, ts m, ss m⟩) := Lib.hid (by rw [HAT.out, if_pos (by omega)]; simp)
      obtain ⟨b1, o1, hA1⟩ : ∃ b o, A1 = some ⟨b, o, none⟩ := HX0.out.k.some_of (by rw [keyL_len]; omega)
      obtain ⟨b2, o2, hA2, hc2⟩ : ∃ b o, A2 = some ⟨b, o, none⟩ ∧ ∀ j u, (numL n ss)[j]? = some u → w.cell? ⟨b, o + j, none⟩ = some u := by
        rcases HX0.out.s with h0 | h0
        · have := numL_len n ss; rw [h0] at this; simp at this; omega
        · exact h0
      obtain ⟨b3, o3, hA3, hc3⟩ : ∃ b o, A3 = some ⟨b, o, none⟩ ∧ ∀ j u, (numL n ts)[j]? = some u → w.cell? ⟨b, o + j, none⟩ = some u := by
        rcases HX0.out.a with h0 | h0
        · have := numL_len n ts; rw [h0] at this; simp at this; omega
        · exact h0
      obtain ⟨TK, hTK⟩ : ∃ T : TypeId, T = 90 := ⟨_, rfl⟩
      obtain ⟨n32, hn32⟩ : ∃ n : Nat, n = 32 := ⟨_, rfl⟩
      have agK : ∀ w, (isAgg TK).run Tryz.prog w = .ok true w := by rw [hTK]; exact fun _ => by kernel_rfl
      have szK : ∀ w, (sizeOf TK).run Tryz.prog w = .ok n32 w := by rw [hTK, hn32]; exact fun _ => by kernel_rfl
      have x1 : ∀ q : Later w, q.w'.cell? ⟨X, 256, none⟩ = some (.slice A1 n c1) := fun q => by rw [(HX0.out.x.fr q.fr (fun e => e)).cell]; exact idxC_mid _ _ _ _ _ 0 (by decide)
      have x2 : ∀ q : Later w, q.w'.cell? ⟨X, 257, none⟩ = some (.slice A2 n c2) := fun q => by rw [(HX0.out.x.fr q.fr (fun e => e)).cell]; exact idxC_mid _ _ _ _ _ 1 (by decide)
      have x3 : ∀ q : Later w, q.w'.cell? ⟨X, 258, none⟩ = some (.slice A3 n c3) := fun q => by rw [(HX0.out.x.fr q.fr (fun e => e)).cell]; exact idxC_mid _ _ _ _ _ 2 (by decide)
      subst hA1 hA2 hA3
      have l1 : ∀ q : Later w, (loadCellsFrom ⟨b1, o1 + m * 32, none⟩ 0 n32 #[]).run Tryz.prog q.w' = .ok (idC (dgt (ks m))) q.w' := fun q => by
        rw [hn32]
        have := load_at HX0.out.k (gt_some (keyL n ks) m (by rw [keyL_len]; exact hm)) q.fr
        rwa [keyL_gt n ks m hm] at this
      have y2 : ∀ q : Later w, q.w'.cell? ⟨b2, o2 + m, none⟩ = some (.int .u32 (ss m : Nat)) := fun q => q.fr.cell (hc2 m _ (numL_get n ss m hm)) (fun e => e)
      have y3 : ∀ q : Later w, q.w'.cell? ⟨b3, o3 + m, none⟩ = some (.int .u32 (ts m : Nat)) := fun q => q.fr.cell (hc3 m _ (numL_get n ts m hm)) (fun e => e)
      have htm := hts m hm
      have hb := fun w => build_plc (ks m) (ts m) (ss m) w
      have HPS := Lib.hid (plC_size ⟨ks m, ts m, ss m⟩)
      have HPO := Lib.hid (plC_one ⟨ks m, ts m, ss m⟩)
      obtain ⟨ka, hka⟩ : ∃ c, idC (dgt (ks m)) = c := ⟨_, rfl⟩
      obtain ⟨pc, hpc⟩ : ∃ c, Pl.cells ⟨ks m, ts m, ss m⟩ = c := ⟨_, rfl⟩
      obtain ⟨S, hS⟩ : ∃ S, ss m = S := ⟨_, rfl⟩
      obtain ⟨T, hT⟩ : ∃ T, ts m = T := ⟨_, rfl⟩
      rw [hka] at l1 hb
      rw [hpc] at hb HPS HPO
      rw [hS] at y2 hb
      rw [hT] at y3 hb htm
      have HPC := Lib.hid hpc
      have hwT : IntKind.i64.wrap (T : Int) = T := by rw [IntKind.wrap_i64]; omega
      have hmz : (m : Int) < (n : Int) := by omega
      clear hka hpc hS hT hc2 hc3 hn32 hkn
      go_enter Tryz.func37, Tryz.ntmps37
      rw [show Op.load 90 (.tmp 19) = Op.load TK (.tmp 19) by rw [hTK]]
      clear hTK
      go_upto_region 3 with (go_at_call 16; refine (HLN.out _ HX.out).mono ?_; rintro e w' ⟨rfl, rfl⟩)
      refine wp_region_held (S := fun w' => ∃ q : Later w, w' = q.w') (by kernel_rfl) ?_
      have HSq := Lib.hid (show ∃ q : Later w, w1.drew = q.w' from ⟨⟨_, HF1.out.drew⟩, rfl⟩)
      (
        refine wpAnyH_takeX (i := 0) (v := .pointer (some ⟨X, 0, none⟩)) 14 rfl rfl (by kernel_rfl) (by kernel_rfl) (by kernel_rfl) (fun _ _ _ h => h) (.inl ⟨by rfl, ?_⟩) HSq.out ?_
        · rintro _ ⟨q, rfl⟩
          go_simp)
      (
        refine wpAnyH_takeX (i := 1) (v := .pointer (some ⟨X, 0, none⟩)) 15 rfl rfl (by kernel_rfl) (by kernel_rfl) (by kernel_rfl) (fun _ _ _ h => h) (.inl ⟨by rfl, ?_⟩) HSq.out ?_
        · rintro _ ⟨q, rfl⟩
          go_simp)
      (
        refine wpAnyH_takeX (i := 2) (v := .pointer (some ⟨X, 256, none⟩)) 16 rfl rfl (by kernel_rfl) (by kernel_rfl) (by kernel_rfl) (fun _ _ _ h => h) (.inl ⟨by rfl, ?_⟩) HSq.out ?_
        · rintro _ ⟨q, rfl⟩
          go_simp)
      (
        refine wpAnyH_takeX (i := 3) (v := .slice (some ⟨b1, o1, none⟩) n c1) 17 rfl rfl (by kernel_rfl) (by kernel_rfl) (by kernel_rfl) (fun _ _ _ h => h) (.inl ⟨by rfl, ?_⟩) HSq.out ?_
        · rintro _ ⟨q, rfl⟩
          go_simp)
      (
        refine wpAnyH_takeX (i := 4) (v := .int .i64 m) 18 rfl rfl (by kernel_rfl) (by kernel_rfl) (by kernel_rfl) (fun _ _ _ h => h) (.inl ⟨by rfl, ?_⟩) HSq.out ?_
        · rintro _ ⟨q, rfl⟩
          go_simp)
      (
        refine wpAnyH_takeX (i := 5) (v := .pointer (some ⟨b1, o1 + m * 32, none⟩)) 19 rfl rfl (by kernel_rfl) (by kernel_rfl) (by kernel_rfl) (fun _ _ _ h => h) (.inl ⟨by rfl, ?_⟩) HSq.out ?_
        · rintro _ ⟨q, rfl⟩
          go_simp)
      (
        refine wpAnyH_takeX (i := 6) (v := .agg ka) 20 rfl rfl (by kernel_rfl) (by kernel_rfl) (by kernel_rfl) (fun _ _ _ h => h) (.inl ⟨by rfl, ?_⟩) HSq.out ?_
        · rintro _ ⟨q, rfl⟩
          go_simp)
      (
        refine wpAnyH_takeX (i := 7) (v := .pointer (some ⟨X, 0, none⟩)) 21 rfl rfl (by kernel_rfl) (by kernel_rfl) (by kernel_rfl) (fun _ _ _ h => h) (.inl ⟨by rfl, ?_⟩) HSq.out ?_
        · rintro _ ⟨q, rfl⟩
          go_simp)
      (
        refine wpAnyH_takeX (i := 8) (v := .pointer (some ⟨X, 0, none⟩)) 22 rfl rfl (by kernel_rfl) (by kernel_rfl) (by kernel_rfl) (fun _ _ _ h => h) (.inl ⟨by rfl, ?_⟩) HSq.out ?_
        · rintro _ ⟨q, rfl⟩
          go_simp)
      (
        refine wpAnyH_takeX (i := 9) (v := .pointer (some ⟨X, 258, none⟩)) 23 rfl rfl (by kernel_rfl) (by kernel_rfl) (by kernel_rfl) (fun _ _ _ h => h) (.inl ⟨by rfl, ?_⟩) HSq.out ?_
        · rintro _ ⟨q, rfl⟩
          go_simp)
      (
        refine wpAnyH_takeX (i := 10) (v := .slice (some ⟨b3, o3, none⟩) n c3) 24 rfl rfl (by kernel_rfl) (by kernel_rfl) (by kernel_rfl) (fun _ _ _ h => h) (.inl ⟨by rfl, ?_⟩) HSq.out ?_
        · rintro _ ⟨q, rfl⟩
          go_simp)
      (
        refine wpAnyH_takeX (i := 11) (v := .int .i64 m) 25 rfl rfl (by kernel_rfl) (by kernel_rfl) (by kernel_rfl) (fun _ _ _ h => h) (.inl ⟨by rfl, ?_⟩) HSq.out ?_
        · rintro _ ⟨q, rfl⟩
          go_simp)
      (
        refine wpAnyH_takeX (i := 12) (v := .pointer (some ⟨b3, o3 + m, none⟩)) 26 rfl rfl (by kernel_rfl) (by kernel_rfl) (by kernel_rfl) (fun _ _ _ h => h) (.inl ⟨by rfl, ?_⟩) HSq.out ?_
        · rintro _ ⟨q, rfl⟩
          go_simp)
      (
        refine wpAnyH_takeX (i := 13) (v := .int .u32 T) 27 rfl rfl (by kernel_rfl) (by kernel_rfl) (by kernel_rfl) (fun _ _ _ h => h) (.inl ⟨by rfl, ?_⟩) HSq.out ?_
        · rintro _ ⟨q, rfl⟩
          go_simp)
      (
        refine wpAnyH_takeX (i := 14) (v := .int .i64 T) 28 rfl rfl (by kernel_rfl) (by kernel_rfl) (by kernel_rfl) (fun _ _ _ h => h) (.inl ⟨by rfl, ?_⟩) HSq.out ?_
        · rintro _ ⟨q, rfl⟩
          go_simp)
      (
        refine wpAnyH_takeX (i := 15) (v := .pointer (some ⟨X, 0, none⟩)) 29 rfl rfl (by kernel_rfl) (by kernel_rfl) (by kernel_rfl) (fun _ _ _ h => h) (.inl ⟨by rfl, ?_⟩) HSq.out ?_
        · rintro _ ⟨q, rfl⟩
          go_simp)
      (
        refine wpAnyH_takeX (i := 16) (v := .pointer (some ⟨X, 0, none⟩)) 30 rfl rfl (by kernel_rfl) (by kernel_rfl) (by kernel_rfl) (fun _ _ _ h => h) (.inl ⟨by rfl, ?_⟩) HSq.out ?_
        · rintro _ ⟨q, rfl⟩
          go_simp)
      (
        refine wpAnyH_takeX (i := 17) (v := .pointer (some ⟨X, 257, none⟩)) 31 rfl rfl (by kernel_rfl) (by kernel_rfl) (by kernel_rfl) (fun _ _ _ h => h) (.inl ⟨by rfl, ?_⟩) HSq.out ?_
        · rintro _ ⟨q, rfl⟩
          go_simp)
      (
        refine wpAnyH_takeX (i := 18) (v := .slice (some ⟨b2, o2, none⟩) n c2) 32 rfl rfl (by kernel_rfl) (by kernel_rfl) (by kernel_rfl) (fun _ _ _ h => h) (.inl ⟨by rfl, ?_⟩) HSq.out ?_
        · rintro _ ⟨q, rfl⟩
          go_simp)
      (
        refine wpAnyH_takeX (i := 19) (v := .int .i64 m) 33 rfl rfl (by kernel_rfl) (by kernel_rfl) (by kernel_rfl) (fun _ _ _ h => h) (.inl ⟨by rfl, ?_⟩) HSq.out ?_
        · rintro _ ⟨q, rfl⟩
          go_simp)
      (
        refine wpAnyH_takeX (i := 20) (v := .pointer (some ⟨b2, o2 + m, none⟩)) 34 rfl rfl (by kernel_rfl) (by kernel_rfl) (by kernel_rfl) (fun _ _ _ h => h) (.inl ⟨by rfl, ?_⟩) HSq.out ?_
        · rintro _ ⟨q, rfl⟩
          go_simp)
      (
        refine wpAnyH_takeX (i := 21) (v := .int .u32 S) 35 rfl rfl (by kernel_rfl) (by kernel_rfl) (by kernel_rfl) (fun _ _ _ h => h) (.inl ⟨by rfl, ?_⟩) HSq.out ?_
        · rintro _ ⟨q, rfl⟩
          go_simp)
      refine wpAnyH_takeX (i := 22) (v := .agg pc) 36 rfl rfl (by kernel_rfl) (by kernel_rfl) (by kernel_rfl) (fun _ _ _ h => h) (yieldsIf_build (by kernel_rfl) 43 _ rfl #[(0, .agg ka), (1, .int .i64 T), (2, .int .u32 S)] (by kernel_rfl) _ hb) HSq.out ?_
      (
        change wpAnyH _ _ _ _ _ _ _ _ (World.drew w1)
        have HFd := Lib.hid (show Fr (fun _ => False) w1 (World.drew w1) from (Fr.refl _ w1).drew)
        obtain ⟨wd, hwd⟩ : ∃ wd, World.drew w1 = wd := ⟨_, rfl⟩
        rw [hwd]
        rw [hwd] at HFd
        clear hwd HSq)
      clear x1 x2 x3 l1 y2 y3 hb
      (
        try simp only [List.setIfInBounds_toArray, List.set_cons_succ, List.set_cons_zero]
        refine wpAnyH_all (rs := [23]) (by kernel_rfl) (by simp) ?_
        intro i hi
        simp only [List.mem_cons, List.not_mem_nil, or_false] at hi
        subst hi)
      refine wpOp_step rfl (fun K hK => ?_)
      rw [if_pos (by rfl)]
      refine wp_store_at 43 (.tmp 4) (.tmp 36) rfl w.heap.size 0 43 zeroPl pc rfl rfl (HZ.out.fr HFd.out (fun e => e)) (by rw [HPS.out]; decide) (by rw [HPS.out]; exact size_pl) HPO.out ?_
      intro w3 hw3 hf3
      rw [laidAt_all _ _ (by rw [HPS.out]; rfl)] at hw3
      have HW3 := Lib.hid hw3
      have HF3 := Lib.hid ((HF1.out.trans HFd.out (fun _ _ e => e)).trans hf3 (fun i hi e => by omega))
      clear hw3 hf3
      go_simp
      refine hK _ _ ⟨⟨⟨_, HF3.out⟩, rfl⟩, ?_⟩
      clear hK K
      refine wpAnyH_done (by kernel_rfl) ?_ _
      go_wp2_with fail
      refine bodyPost_ret (v := .agg pc) (results_cell_row (p := 4) rfl _ _ _ _ _ _ _ rfl HW3.out Tryz.underlying43 rfl (by rw [HPS.out]; exact size_pl)) rfl ?_
      exact ⟨by rw [HA.out, HPC.out], HF3.out⟩
end Go.Proofs.YtgbhdjncccmabaaGreatDoor

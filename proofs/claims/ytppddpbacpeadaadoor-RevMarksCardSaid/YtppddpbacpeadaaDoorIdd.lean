/- What is proved: an id's text, by the program and by the document. Conditions: none. -/
import Derived.Test.YtppddpbacpeadaaDoorIdc
import Derived.Test.YtppddpbacpeadaaDoorIds
import Derived.Laws.DeepStrings4
import Derived.Laws.Concat
namespace Go.Proofs.YtppddpbacpeadaaDoor.Ids
open Go.RowKit
set_option linter.unusedVariables false

/-- The text of the first m digits. -/
def hexB (D : Nat → Nat) (m : Nat) : List UInt8 := (List.range m).map fun k => figs.getD (D k) 0
theorem hexB_len (D : Nat → Nat) (m : Nat) : (hexB D m).length = m := by simp [hexB]
theorem hexB_succ (D : Nat → Nat) (m : Nat) : hexB D (m + 1) = hexB D m ++ [figs.getD (D m) 0] := by simp [hexB, List.range_succ]
def hexS (D : Nat → Nat) : ByteArray := strB (hexB D 64)

/-- Two cells that the call has just laid, as a source. -/
theorem src_two {tx e' : TypeId} (hk : Tryd.prog.underlying tx = some (.slice e')) (w : World) (c d : Value) (hc : c.oneCell' = true) (hd : d.oneCell' = true) : Src Tryd.prog 1 tx (.slice (some ⟨w.heap.size, 0, none⟩) 2 2) 2 [c, d] (w.alloc (.cells #[c, d] e')) :=
  Src.ofSlice _ hk ⟨w.heap.size, 0, none⟩ 2 2 [c, d] rfl (by intro j u hj; match j, hj with | 0, hj => simp at hj; subst hj; simp [Addr.add] | 1, hj => simp at hj; subst hj; simp [Addr.add]) (by intro u hu; simp at hu; rcases hu with rfl | rfl; exact hc; exact hd)
theorem make_room (w : World) : (Instr.makeSlice 27 (.int .i64 0) (.int .i64 64)).run Tryd.prog w =
    .ok (.slice (some ⟨w.heap.size, 0, none⟩) 0 64) (w.alloc (.cells (List.replicate 64 (Value.int .u8 0)).toArray 5)) := by
  obtain ⟨i0, hi, hz0, hz1, hz2⟩ := info_parts info_u8
  have h := run_make (P := Tryd.prog) w 27 5 i0 (.int .u8 0) Tryd.underlying27 hi hz0 .i64 .i64 0 64 (by omega) (by omega) (by rw [hz2]; omega) (by omega)
  rw [show (64 : Int).toNat = 64 from rfl, show (0 : Int).toNat = 0 from rfl, hz1, Nat.mul_one] at h
  have e2 : madeCells (Value.int .u8 0).cells 64 = (List.replicate 64 (Value.int .u8 0)).toArray := by
    apply Array.toList_inj.1
    show (madeCells #[Value.int .u8 0] 64).toList = _
    rw [toList_madeCells_one]
  rw [e2] at h
  exact h
theorem index_id (D : Nat → Nat) (k : Nat) (h : k < 32) (w : World) : (Instr.index 23 (.agg (idC D)) (.int .i64 k)).run Tryd.prog w = .ok (.int .u8 (byt D k : Nat)) w := by
  have hp : (part 5 (idC D) k).run Tryd.prog w = .ok (.int .u8 (byt D k : Nat)) w := by
    have ag : (isAgg 5).run Tryd.prog w = .ok false w := by kernel_rfl
    simp only [part, Sem.run_bind, ag, Result.andThen_ok, Bool.false_eq_true, if_false, idC_get D k h, Sem.run_pure]
    rfl
  have sz : (sizeOf 5).run Tryd.prog w = .ok 1 w := by kernel_rfl
  simp [Instr.index, asIntOf, run_underlying Tryd.underlying23, sz, hp]
  intro h2; omega
theorem index_fig (q : Int) (h0 : 0 ≤ q) (h1 : q < 16) (w : World) : (Instr.index 9 (.string { data := #[48, 49, 50, 51, 52, 53, 54, 55, 56, 57, 97, 98, 99, 100, 101, 102] }) (.int .u8 q)).run Tryd.prog w = .ok (.int .u8 ((figs.getD q.toNat 0).toNat : Nat)) w := by
  rw [run_index_string w 9 _ .u8 q Tryd.underlying9, dif_pos ⟨h0, by show q < 16; exact h1⟩, fig_at q.toNat (by omega)]

theorem and15 (y : Int) (h0 : 0 ≤ y) (h1 : y < 256) : bits .and .u8 y 15 = y % 16 := u8_and15 _ h0 h1
section
variable {P : Program} (w : World)
theorem step_append_row {ops : Array Oper} {o : Oper} {a : Act} {K : Act → World → Prop} {Q : Exit → Act → World → Prop} {E : Prop} (hgd : o.guard = none) (s x : Operand) (t tx : TypeId)
    (ho : o.op = .call { callee := .builtin .append, args := #[s, x], argTypes := #[t, tx] })
    (base : Nat) (e : TypeId) (i : TypeInfo) (z : Value) (size bytes : Nat) (ht : P.underlying t = some (.slice e)) (hi : P.info? e = some i) (hz : i.zero = some z)
    (hsize : i.size = size) (hby : i.bytes = bytes) (hzs : z.cells.size = size)
    (v : Value) (n : Nat) (xs : List Value) (hs : a.eval s = v) (hown : w.ownsRow base e size v n xs)
    (y : Value) (m : Nat) (news : List Value) (hx : a.eval x = y) (hsrc : Src P size tx y m news w)
    (h63 : n + m ≤ maxLen) (hbytes : (n + m) * bytes ≤ 140737488355328) (hbase : base ≤ w.heap.size)
    (h : ∀ v' w', w'.ownsRow base e size v' (n + m) (xs ++ news) → w.grownBy w' v.ownBlock → (v'.ownBlock = v.ownBlock ∨ v'.ownBlock = some w.heap.size) → K (a.put o.dst v') w') :
    if Region.wanted o (yielded ops a.tmps) = true then Oper.wp P o a w K Q else E := by
  have hw : Region.wanted o (yielded ops a.tmps) = true := by simp [Region.wanted, hgd]
  rw [if_pos hw]
  obtain ⟨v', w', hrun, h2, h3, h4⟩ := run_append_row (P := P) w base t tx o.type e i z size bytes ht hi hz hsize hby hzs v n xs hown y m news hsrc h63 hbytes hbase
  unfold Oper.wp execOp
  simp only [ho, resolve, invoke, builtin, Sem.run_bind, Sem.run_pure, Result.andThen_ok, List.map_toArray, List.map_cons, List.map_nil, hs, hx, hrun]
  exact h v' w' h2 h3 h4
end

/-- What stands at the head of a round of Hex. -/
def HxRel (w w1 : World) (D : Nat → Nat) (v : Value) (m : Nat) (wr : World) : Prop := wr.ownsRow w1.heap.size 5 1 v m (bytesV (hexB D m)) ∧ Fr (fun _ => False) w1 wr

set_option maxHeartbeats 1600000 in
set_option maxRecDepth 100000 in
theorem OHex_any (D : Nat → Nat) (hD : ∀ k, D k < 16) (w : World) : Calls Tryd.prog 29 #[.agg (idC D)] w fun e w' => e = .returned (.string (hexS D)) ∧ Below w.heap.size w w' := by
  obtain ⟨i0, hi, hz0, hz1, hz2⟩ := info_parts info_u8
  obtain ⟨w1, hw1⟩ : ∃ w1, w.alloc (.cells (idC D) 23) = w1 := ⟨_, rfl⟩
  have hF : Fr (fun _ => False) w w1 := by subst hw1; exact (Fr.refl _ w).alloc _
  have hS : Whole w1 w.heap.size 23 (idC D) := by subst hw1; exact Whole.new w 23 _
  have hmk := fun w => make_room w
  obtain ⟨Z, hZ⟩ : ∃ Z, (List.replicate 64 (Value.int .u8 0)).toArray = Z := ⟨_, rfl⟩
  have hZs : Z.size = 64 := by rw [← hZ]; simp
  rw [hZ] at hmk
  have HF := Lib.hid hF
  have HS := Lib.hid hS
  have HD := Lib.hid hD
  have hix : ∀ (k : Nat) (w : World), k < 32 → (Instr.index 23 (.agg (idC D)) (.int .i64 k)).run Tryd.prog w = .ok (.int .u8 (byt D k : Nat)) w := fun k w h => index_id D k h w
  obtain ⟨cw, hcw⟩ : ∃ cw, idC D = cw := ⟨_, rfl⟩
  have hcs : cw.size = 32 := by rw [← hcw]; exact idC_size D
  rw [hcw] at hw1 hix ⊢
  have HIX := Lib.hid hix
  have HCW := Lib.hid hcw
  have HW0 : Hid (Whole (w1.alloc (.cells Z 5)) w.heap.size 23 cw) := Lib.hid (by rw [← hcw]; exact hS.fr ((Fr.refl (fun _ => False) w1).alloc _) (fun e => e))
  have h0 : HxRel w w1 D (.slice (some ⟨w1.heap.size, 0, none⟩) 0 64) 0 (w1.alloc (.cells Z 5)) :=
    ⟨World.ownsRow_made w1 Z 64 (Nat.le_refl _) (by unfold maxLen; omega) (by rw [hZs]), (Fr.refl _ _).alloc _⟩
  have H0 := Lib.hid h0
  clear hF hS hcw hD hZ hix h0
  go_enter Tryd.func29, Tryd.ntmps29
  go_wp2_with (refine wpList_load_row rfl 23 _ rfl _ rfl 23 _ _ _ HW0.out Tryd.underlying23 rfl (by rw [hcs]; exact size32) ?_)
  clear hw1
  go_loopw [3, 8] (fun v i wr => ∃ k : Nat, k ≤ 32 ∧ i = .int .i64 k ∧ HxRel w w1 D v (2 * k) wr) (fun _ i _ => 32 - (intOf i).toNat)
  case atStart => exact ⟨0, by omega, rfl, H0.out⟩
  case round =>
    obtain ⟨k, hk, rfl, hr⟩ := hrel
    obtain ⟨A, c, hv, hnc, hcm⟩ := own_slice hr.1
    subst hv
    have HR := Lib.hid hr
    clear hr
    by_cases hlt : k < 32
    · have hixk := fun w => HIX.out k w hlt
      have hb := byt_lt D HD.out k
      have hh := byt_hi D HD.out k
      have hl := byt_low D HD.out k
      obtain ⟨x, hx⟩ : ∃ x : Nat, byt D k = x := ⟨_, rfl⟩
      rw [hx] at hixk hb hh hl
      obtain ⟨y, hy⟩ : ∃ y : Int, ((x : Nat) : Int) = y := ⟨_, rfl⟩
      rw [hy] at hixk
      have hy0 : 0 ≤ y := by omega
      have hy1 : y < 256 := by omega
      have HH : Hid ((y / 16).toNat = D (2 * k)) := Lib.hid (by omega)
      have HL : Hid ((y % 16).toNat = D (2 * k + 1)) := Lib.hid (by omega)
      have hi1 := fun w => index_fig (y / 16) (by omega) (by omega) w
      have hi2 := fun w => index_fig (y % 16) (by omega) (by omega) w
      rw [HH.out] at hi1
      rw [HL.out] at hi2
      clear hx hy hb hh hl
      obtain ⟨z1, hz1'⟩ : ∃ z1 : Int, ((figs.getD (D (2 * k)) 0).toNat : Int) = z1 := ⟨_, rfl⟩
      obtain ⟨z2, hz2'⟩ : ∃ z2 : Int, ((figs.getD (D (2 * k + 1)) 0).toNat : Int) = z2 := ⟨_, rfl⟩
      rw [hz1'] at hi1
      rw [hz2'] at hi2
      have HE : Hid (bytesV (hexB D (2 * (k + 1))) = bytesV (hexB D (2 * k)) ++ [.int .u8 z1, .int .u8 z2]) := Lib.hid (by
        rw [show 2 * (k + 1) = 2 * k + 1 + 1 by omega, hexB_succ, hexB_succ, List.append_assoc, bytesV_append, ← hz1', ← hz2']; rfl)
      have ha := and15 y hy0 hy1
      clear hz1' hz2' HH HL
      go_wp2_with fail
      go_region_law (refine step_append_row _ (by rfl) (.tmp 11) (.tmp 18) 27 27 (by rfl) w1.heap.size 5 i0 (.int .u8 0) 1 1 Tryd.underlying27 hi hz0 hz1 hz2 (by rfl) _ (2 * k) _ (by rfl) (own_fr (S := fun _ => False) HR.out.1 ((Fr.refl _ wr).drew.alloc _) (fun _ _ e => e)) _ 2 [.int .u8 z1, .int .u8 z2] (by rfl) (src_two Tryd.underlying27 wr.drew _ _ rfl rfl) (by unfold maxLen; omega) (by omega) (by have := HR.out.2.size; simp; omega) ?_; intro v1 w3 o1 g1 at1)
      all_goals
        have hn : HxRel w w1 D v1 (2 * (k + 1)) w3 := ⟨by rw [HE.out]; exact o1, ((HR.out.2.alloc _).drew).grown g1 (fun j hj hlt => absurd hlt (by have := (World.ownsRow.lt HR.out.1 j hj).1; omega))⟩
        have HN := Lib.hid hn
        clear hn o1 g1 at1
        go_wp2_with fail
        go_roundw
        case rel => exact ⟨k + 1, by omega, by go_num, HN.out⟩
        case measure => simp [intOf]; omega
    · obtain rfl : k = 32 := by omega
      have hcv := run_convert_lies (P := Tryd.prog) 27 9 5 Tryd.underlying27 Tryd.underlying5 Tryd.underlying9 (Lies.of_own HR.out.1) c
      rw [hexB_len] at hcv
      have HHS : Hid (strB (hexB D (2 * 32)) = hexS D) := Lib.hid rfl
      rw [HHS.out] at hcv
      go_wp2_with fail
      go_ret
      exact ⟨rfl, (HF.out.trans HR.out.2 (fun _ _ e => e)).below (fun _ _ e => e)⟩

theorem strB_append (xs ys : List UInt8) : strB xs ++ strB ys = strB (xs ++ ys) := by
  apply ByteArray.ext
  simp [strB, ByteArray.data_append]
theorem slice_fig (q : Int) (h0 : 0 ≤ q) (h1 : q < 16) (w : World) : (Instr.slice 9 (.string { data := #[48, 49, 50, 51, 52, 53, 54, 55, 56, 57, 97, 98, 99, 100, 101, 102] }) (some (.int .i64 q)) (some (.int .i64 (q + 1))) none).run Tryd.prog w = .ok (.string (strB [figs.getD q.toNat 0])) w := by
  rw [run_slice_string_if w 9 _ .i64 .i64 q (q + 1) Tryd.underlying9, if_pos ⟨by omega, by show q + 1 ≤ 16; omega⟩, if_pos ⟨h0, by omega⟩]
  congr 2
  obtain ⟨k, rfl⟩ : ∃ k : Nat, q = k := ⟨q.toNat, by omega⟩
  have hk : k < 16 := by omega
  rw [Int.toNat_natCast, show ((k : Int) + 1).toNat = k + 1 by omega]
  have h : ∀ k, k < 16 → ByteArray.extract { data := #[48, 49, 50, 51, 52, 53, 54, 55, 56, 57, 97, 98, 99, 100, 101, 102] } k (k + 1) = strB [figs.getD k 0] := by decide
  exact h k hk

set_option maxHeartbeats 1600000 in
set_option maxRecDepth 100000 in
theorem QHex_any (D : Nat → Nat) (hD : ∀ k, D k < 16) (w : World) : Calls Tryd.prog 31 #[.agg (idC D)] w fun e w' => e = .returned (.string (hexS D)) ∧ Below w.heap.size w w' := by
  obtain ⟨w1, hw1⟩ : ∃ w1, w.alloc (.cells (idC D) 23) = w1 := ⟨_, rfl⟩
  have hF : Fr (fun _ => False) w w1 := by subst hw1; exact (Fr.refl _ w).alloc _
  have hS : Whole w1 w.heap.size 23 (idC D) := by subst hw1; exact Whole.new w 23 _
  have HF := Lib.hid hF
  have HD := Lib.hid hD
  have hDg := QDigits_any D hD w1
  obtain ⟨cw, hcw⟩ : ∃ cw, idC D = cw := ⟨_, rfl⟩
  have hcs : cw.size = 32 := by rw [← hcw]; exact idC_size D
  rw [hcw] at hw1 hS hDg ⊢
  have HS := Lib.hid hS
  have HDg := Lib.hid hDg
  clear hF hS hcw hD hDg
  go_enter Tryd.func31, Tryd.ntmps31
  go_wp2_with (first
    | (go_at_call 46; refine HDg.out.mono ?_; rintro e w2 ⟨A, c, rfl, hc, hl, b2⟩
       have HL := Lib.hid hl
       have F2 := HF.out.then_below b2
       have HF2 := Lib.hid F2
       clear hl b2 F2)
    | (refine wpList_load_row rfl 23 _ rfl _ rfl 23 _ _ _ HS.out Tryd.underlying23 rfl (by rw [hcs]; exact size32) ?_))
  clear hw1
  go_loopw [4, 5] (fun s i wr => ∃ k : Nat, k ≤ 64 ∧ i = .int .i64 k ∧ s = .string (strB (hexB D k)) ∧ Fr (fun _ => False) w2 wr) (fun _ i _ => 64 - (intOf i).toNat)
  case atStart => exact ⟨0, by omega, rfl, rfl, Fr.refl _ _⟩
  case round =>
    obtain ⟨k, hk, rfl, rfl, hf⟩ := hrel
    have HFr := Lib.hid hf
    by_cases hlt : k < 64
    · have hd := HD.out k
      obtain ⟨q, hq⟩ : ∃ q : Int, ((D k : Nat) : Int) = q := ⟨_, rfl⟩
      have q0 : 0 ≤ q := by omega
      have q1 : q < 16 := by omega
      have hsl := fun w => slice_fig q q0 q1 w
      rw [show q.toNat = D k by omega] at hsl
      have HN : Hid (strB (hexB D (k + 1)) = strB (hexB D k) ++ strB [figs.getD (D k) 0]) := Lib.hid (by rw [hexB_succ, strB_append])
      rcases HL.out with h0 | ⟨b, o, rfl, hcell⟩
      · have := congrArg List.length h0
        rw [digV_len] at this
        simp at this
      · have c0 := hf.cell (hcell k _ (digV_get D 64 k hlt)) (fun e => e)
        rw [hq] at c0
        have hadd : ∀ w, (Op.stringOp .add (strB (hexB D k)) (strB [figs.getD (D k) 0])).run Tryd.prog w = .ok (.string (strB (hexB D (k + 1)))) w := fun w => by
          rw [HN.out]
          exact run_string_add_sum w _ _ (by show (hexB D k).length + 1 ≤ _; rw [hexB_len]; omega)
        obtain ⟨S1, hS1⟩ : ∃ S1, strB (hexB D k) = S1 := ⟨_, rfl⟩
        obtain ⟨S2, hS2⟩ : ∃ S2, strB [figs.getD (D k) 0] = S2 := ⟨_, rfl⟩
        rw [hS1, hS2] at hadd
        rw [hS2] at hsl
        rw [hS1]
        clear hq hf hS1 hS2 hcell hd HN
        go_wp2_with fail
        go_region
        go_wp2_with fail
        go_roundw
        case rel => exact ⟨k + 1, by omega, by go_num, rfl, HFr.out.drew⟩
        case measure => simp [intOf]; omega
    · obtain rfl : k = 64 := by omega
      have HHS : Hid (strB (hexB D 64) = hexS D) := Lib.hid rfl
      rw [HHS.out]
      go_wp2_with fail
      go_ret
      exact ⟨rfl, (HF2.out.trans HFr.out (fun _ _ e => e)).below (fun _ _ e => e)⟩
end Go.Proofs.YtppddpbacpeadaaDoor.Ids

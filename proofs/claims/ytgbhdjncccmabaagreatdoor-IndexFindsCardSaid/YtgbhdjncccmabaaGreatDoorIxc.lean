/- What is proved: the bytes of ids, one behind the other, by the program. Conditions: the list's cells are there; at most 1000. -/
import Derived.Test.YtgbhdjncccmabaaGreatDoorIxb
import Derived.Test.YtgbhdjncccmabaaGreatDoorIf
namespace Go.Proofs.YtgbhdjncccmabaaGreatDoor
open Go.RowKit
set_option linter.unusedVariables false

theorem own_whole {w : World} {base : Nat} {e : TypeId} {s n g : Nat} {xs : List Value} (h : w.ownsRow base e s (.slice (some ⟨g, 0, none⟩) n n) n xs) : Whole w g e xs.toArray ∧ base ≤ g := by
  rcases h.2 with ⟨hv, _⟩ | ⟨g', cap, cur, hv, hb, hg, hn, hc, hsz, htk⟩
  · cases hv
  · cases hv
    have : cur = xs.toArray := by
      apply Array.toList_inj.1
      rw [← htk, List.take_of_length_le (by rw [Array.length_toList, hsz]; exact Nat.le_refl _)]
    subst this
    exact ⟨hg, hb⟩
theorem whole_own {w : World} {base : Nat} {e : TypeId} {s n g : Nat} {xs : List Value} (h : Whole w g e xs.toArray) (hl : xs.length = n * s) (hb : base ≤ g) (hn : n ≤ maxLen) : w.ownsRow base e s (.slice (some ⟨g, 0, none⟩) n n) n xs :=
  ⟨hl, .inr ⟨g, n, xs.toArray, rfl, hb, h, Nat.le_refl _, hn, by simpa using hl, by simp [← hl]⟩⟩
theorem Whole.lies {w : World} {g : Nat} {t : TypeId} {cs : Array Value} (h : Whole w g t cs) : Lies w (some ⟨g, 0, none⟩) cs.toList :=
  .inr ⟨g, 0, rfl, fun j u hu => by rw [Nat.zero_add, h.cell]; simpa using hu⟩
theorem Whole.list {w : World} {g : Nat} {t : TypeId} {xs : List Value} (h : Whole w g t xs.toArray) : Lies w (some ⟨g, 0, none⟩) xs := by simpa using h.lies

/-- Ids as bytes, one behind the other. -/
def joinI (ns : List Nat) : List UInt8 := ns.flatMap idL
theorem joinI_len (ns : List Nat) : (joinI ns).length = 32 * ns.length := by
  induction ns with
  | nil => rfl
  | cons n ns ih => rw [show joinI (n :: ns) = idL n ++ joinI ns from rfl, List.length_append, ih, idL_len, List.length_cons]; omega
theorem joinI_take (ns : List Nat) (k : Nat) (h : k < ns.length) : joinI (ns.take (k + 1)) = joinI (ns.take k) ++ idL (gt ns k) := by
  rw [List.take_add_one, gt_some ns k h]
  simp [joinI]
theorem flatI_joinI (ns : List Nat) : flatI ns = bytesV (joinI ns) := by
  induction ns with
  | nil => rfl
  | cons n ns ih => rw [flatI_cons, show joinI (n :: ns) = idL n ++ joinI ns from rfl, bytesV_append, ih, idL_cells]
def jrow (ns : List Nat) (k : Nat) : List Value := bytesV (joinI (ns.take k)) ++ List.replicate (32 * (ns.length - k)) (.int .u8 0)
theorem jrow_len (ns : List Nat) (k : Nat) (h : k ≤ ns.length) : (jrow ns k).length = 32 * ns.length := by
  rw [jrow, List.length_append, bytesV_length, joinI_len, List.length_take, List.length_replicate]; omega
theorem jrow_next (ns : List Nat) (k : Nat) (h : k < ns.length) : splice (jrow ns k) (32 * k) (bytesV (idL (gt ns k))) = jrow ns (k + 1) := by
  have hl : (bytesV (joinI (ns.take k))).length = 32 * k := by rw [bytesV_length, joinI_len, List.length_take]; omega
  unfold splice jrow
  rw [List.take_append_of_le_length (by omega), List.take_of_length_le (by omega), List.drop_append, List.drop_of_length_le (l := bytesV (joinI (ns.take k))) (by omega), List.nil_append, hl, List.drop_replicate, bytesV_length, idL_len, joinI_take ns k h, bytesV_append, show 32 * (ns.length - k) - (32 * k + 32 - 32 * k) = 32 * (ns.length - (k + 1)) by omega]
  simp
theorem jrow_all (ns : List Nat) : jrow ns ns.length = bytesV (joinI ns) := by simp [jrow]
theorem madeU8 (n : Nat) : (madeCells (Value.int .u8 0).cells n).toList = List.replicate n (.int .u8 0) := by
  apply List.ext_getElem
  · simp [madeCells]
  · intro j h1 h2
    simp [madeCells, Value.cells, Nat.mod_one]
theorem slice_IDall (g : Nat) (w : World) : (Instr.sliceAt 24 (.pointer (some ⟨g, 0, none⟩)) none none none).run Tryz.prog w = .ok (.slice (some ⟨g, 0, none⟩) 32 32) w := slice_allI g w

set_option maxHeartbeats 3200000 in
set_option maxRecDepth 100000 in
theorem Ijoined_any (A : Option Addr) (cap : Nat) (ns : List Nat) (hn : ns.length ≤ 1000) (w : World) (h : Lies w A (flatI ns)) :
    Calls Tryz.prog 68 #[.slice A ns.length cap] w (OwnPost w (joinI ns)) := by
  unfold OwnPost
  obtain ⟨i0, hi, hz0, hz1, hz2⟩ := info_parts info_u8
  have HLI := Lib.hid h
  have HJN := Lib.hid (jrow_next ns)
  have HJL := Lib.hid (jrow_len ns)
  have HJA := Lib.hid (jrow_all ns)
  have HLN := Lib.hid (joinI_len ns)
  have HJ0 : Hid (jrow ns 0 = List.replicate (32 * ns.length) (.int .u8 0)) := Lib.hid (by simp [jrow, joinI, bytesV])
  obtain ⟨L, hL⟩ : ∃ L, ns.length = L := ⟨_, rfl⟩
  have HLn := Lib.hid hL
  obtain ⟨T32, hT32⟩ : ∃ T : TypeId, T = 24 := ⟨_, rfl⟩
  obtain ⟨n32, hn32⟩ : ∃ n : Nat, n = 32 := ⟨_, rfl⟩
  have ag32 : ∀ w, (isAgg T32).run Tryz.prog w = .ok true w := by rw [hT32]; exact fun _ => by kernel_rfl
  have sz32 : ∀ w, (sizeOf T32).run Tryz.prog w = .ok n32 w := by rw [hT32, hn32]; exact fun _ => by kernel_rfl
  have HN32 := Lib.hid hn32
  rw [hL] at hn HJN HJL HJA HLN HJ0 ⊢
  obtain ⟨M, hM⟩ : ∃ M, 32 * L = M := ⟨_, rfl⟩
  have hwm : IntKind.i64.wrap (32 * (L : Int)) = (M : Int) := by rw [IntKind.wrap_i64]; omega
  clear h hL hn32
  go_enter Tryz.func68, Tryz.ntmps68
  rw [show Op.load 24 (.tmp 15) = Op.load T32 (.tmp 15) by rw [hT32]]
  clear hT32
  go_wp2_with (at_make; refine wpList_make_full _ rfl _ _ 28 rfl w.heap.size 5 i0 (.int .u8 0) 1 Tryz.underlying28 hi hz0 hz1 .i64 .i64 _ _ M rfl rfl rfl rfl (by rw [hz2]; omega) (by unfold maxLen; omega) (Nat.le_refl _) ?_; intro w1 ho1 hg1; rw [madeU8, Nat.mul_one] at ho1; have HW1 := Lib.hid (own_whole ho1).1; have HF1 := Lib.hid (show Fr (fun _ => False) w w1 from (Fr.refl _ w).grown hg1 (fun _ e => by cases e)); clear ho1 hg1)
  obtain ⟨G, hG⟩ : ∃ G, w.heap.size = G := ⟨_, rfl⟩
  try rw [hG]
  rw [hG] at HW1
  have HG := Lib.hid hG
  clear hG
  go_loopg [12] L (fun kx s wr => ∃ k : Nat, s = .int .i64 k ∧ k ≤ L ∧ L - k ≤ kx ∧ Whole wr G 5 (jrow ns k).toArray ∧ Fr (fun j => j = G) w1 wr)
  case atStart => exact ⟨0, rfl, by omega, by omega, by rw [HJ0.out, hM]; exact HW1.out, Fr.refl _ _⟩
  case round =>
    obtain ⟨k, rfl, hk, hkx, hg, hf⟩ := hrel
    obtain ⟨wo, rfl⟩ : ∃ wo, wo = wr := ⟨wr, rfl⟩
    have HFr := Lib.hid hf
    have HGk := Lib.hid hg
    clear hf hg
    have wk := wrap_nat k (by omega)
    by_cases hlt : k < L
    · have hltz : (k : Int) < L := by omega
      obtain ⟨b, o, hB⟩ := HLI.out.some_of (by rw [HLn.out]; omega)
      subst hB
      have l1 : (loadCellsFrom ⟨b, o + k * 32, none⟩ 0 n32 #[]).run Tryz.prog wo = .ok (idC (dgt (gt ns k))) wo := by
        rw [HN32.out]
        exact load_at ((HLI.out.fr HF1.out (fun _ _ e => e)).fr HFr.out (fun ad e1 e2 => by
          injection e1 with e1
          subst e1
          have hlt2 : b < w.heap.size := by
            rcases HLI.out with h0 | ⟨b', o', hA, hc⟩
            · have := flatI_len ns
              rw [h0, HLn.out] at this
              simp at this
              omega
            · cases hA
              exact World.block_lt_of_cell? w ⟨b, o + 0, none⟩ (hc 0 _ (by have := flatI_get ns 0 (gt ns 0) 0 (gt_some ns 0 (by rw [HLn.out]; omega)) (by decide); simpa using this))
          simp only at e2
          have := HG.out
          omega)) (gt_some ns k (by rw [HLn.out]; exact hlt)) (Fr.refl _ _)
      have HJk := Lib.hid (HJN.out k hlt)
      have HCS := Lib.hid (idC_size (dgt (gt ns k)))
      have HCO := Lib.hid (idC_one (dgt (gt ns k)))
      have HCL := Lib.hid (idL_cells (gt ns k))
      have HIL := Lib.hid (idL_len (gt ns k))
      have HJLk := Lib.hid (HJL.out k hk)
      obtain ⟨I, hI⟩ : ∃ I, idL (gt ns k) = I := ⟨_, rfl⟩
      obtain ⟨ca, hca⟩ : ∃ c, idC (dgt (gt ns k)) = c := ⟨_, rfl⟩
      rw [hI] at HCL HIL HJk
      rw [hca] at l1 HCS HCO HCL
      (
        obtain ⟨w1, hw1⟩ : ∃ w1, wo.alloc (.cells zero32 24) = w1 := ⟨_, rfl⟩
        have HZ := Lib.hid (show Whole w1 wo.heap.size 24 zero32 from by subst hw1; exact Whole.new wo 24 zero32)
        have HF1 := Lib.hid (show Fr (fun _ => False) wo w1 from by subst hw1; exact (Fr.refl _ wo).alloc _)
        unfold zero32 at hw1
        simp [List.replicate] at hw1)
      have HGk1 := Lib.hid (HGk.out.fr HF1.out (fun e => e))
      have hsz : wo.heap.size ≠ G := by have := HGk.out.lt; omega
      have hw32 : IntKind.i64.wrap (32 * (k : Int)) = ((32 * k : Nat) : Int) := by rw [IntKind.wrap_i64]; push_cast; omega
      obtain ⟨p, hp⟩ : ∃ p, 32 * k = p := ⟨_, rfl⟩
      rw [hp] at hw32 HJk
      have hpM : p + 32 ≤ M := by omega
      have i1 : ∀ w, (Instr.slice 28 (.slice (some ⟨G, 0, none⟩) M M) (some (.int .i64 p)) none none).run Tryz.prog w = .ok (.slice (some ⟨G, p, none⟩) (M - p) (M - p)) w := fun w => by
        have := slice_tlB (some ⟨G, 0, none⟩) M M p (by omega) w
        rw [tlB, if_neg (by omega)] at this
        simpa [add_off] using this
      have i2 := fun w => slice_IDall wo.heap.size w
      clear hI hca hp
      go_wp2_with (refine wpList_store_at rfl 24 _ _ rfl wo.heap.size 0 24 zero32 ca rfl rfl HZ.out (by rw [HCS.out]; decide) (by rw [HCS.out]; exact size_IDs) HCO.out ?_; intro w3 hw3 hf3; rw [laidAt_all _ _ (by rw [HCS.out]; rfl)] at hw3; have HL3 := Lib.hid (show Lies w3 (some ⟨wo.heap.size, 0, none⟩) (bytesV I) from by rw [← HCL.out]; exact hw3.lies); have HG3 := Lib.hid (HGk1.out.fr hf3 (fun e => hsz e.symm)); have HF3 := Lib.hid ((HFr.out.trans HF1.out (fun _ _ e => e.elim)).trans hf3 (fun i hi e => by have := HFr.out.size; omega)); clear hw3 hf3)
      go_region_law (refine step_copy_at (by rfl) (.tmp 20) (.tmp 21) 28 28 (by rfl) 5 Tryz.underlying28 size_u8 G p (M - p) (M - p) (some ⟨wo.heap.size, 0, none⟩) 32 32 (by rfl) (by rfl) _ 5 (HG3.out.fr ((Fr.refl (fun _ => False) w3).drew) (fun e => e)) (bytesV I) (by rw [bytesV_length, HIL.out]; exact (Nat.min_eq_left (by omega)).symm) (by rw [bytesV_length, HIL.out]; decide) HL3.out (by rw [bytesV_length, HIL.out, List.size_toArray, HJLk.out]; omega) (bytesV_one _) ?_; intro w4 hw4 hf4; have HW4 := Lib.hid hw4; have HF4 := Lib.hid ((HF3.out.drew).trans hf4 (fun _ _ e => e)); clear hw4 hf4)
      go_wp2_with fail
      go_roundg (L - (k + 1))
      case measure => omega
      case rel => exact ⟨k + 1, by go_num, by omega, Nat.le_refl _, by have := HW4.out; rw [HJk.out] at this; exact this, HF4.out⟩
    · have hltz : ¬ ((k : Int) < L) := by omega
      obtain rfl : k = L := by omega
      go_wp2_with fail
      go_ret
      rw [HJA.out] at HGk
      refine ⟨_, rfl, ?_, ?_⟩
      · rw [HLN.out, hM]
        have := whole_own (s := 1) (n := M) HGk.out (by rw [bytesV_length, HLN.out]; omega) (Nat.le_of_eq HG.out) (by unfold maxLen; omega)
        exact this
      · exact (HF1.out.trans HFr.out (fun i hi e => by have := HG.out; omega)).below (fun _ _ e => e)
end Go.Proofs.YtgbhdjncccmabaaGreatDoor

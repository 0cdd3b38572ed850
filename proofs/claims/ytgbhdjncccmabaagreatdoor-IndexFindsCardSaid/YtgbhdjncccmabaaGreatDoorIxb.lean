/- What is proved: how many ids have a first byte of at most so much, by the program. Conditions: the list's cells are there; at most 1000. -/
import Derived.Test.YtgbhdjncccmabaaGreatDoorIxs
namespace Go.Proofs.YtgbhdjncccmabaaGreatDoor
open Go.RowKit
set_option linter.unusedVariables false

def b0 (n : Nat) : Nat := byt (dgt n) 0
theorem b0_lt (n : Nat) : b0 n < 256 := byt_lt _ (dgt_lt n) 0
def hist (ns : List Nat) (c : Nat) : Nat := ns.countP fun n => decide (b0 n = c)
def fanN (ns : List Nat) (c : Nat) : Nat := ns.countP fun n => decide (b0 n ≤ c)
theorem hist_le (ns : List Nat) (c : Nat) : hist ns c ≤ ns.length := List.countP_le_length
theorem fanN_le (ns : List Nat) (c : Nat) : fanN ns c ≤ ns.length := List.countP_le_length
theorem fanN_zero (ns : List Nat) : fanN ns 0 = hist ns 0 := by
  unfold fanN hist
  congr 1
  funext n
  rw [decide_eq_decide]
  omega
theorem fanN_succ (ns : List Nat) (c : Nat) : fanN ns (c + 1) = hist ns (c + 1) + fanN ns c := by
  unfold fanN hist
  induction ns with
  | nil => rfl
  | cons n ns ih =>
    rw [List.countP_cons, List.countP_cons, List.countP_cons, ih]
    by_cases h1 : b0 n ≤ c
    · simp [h1, show b0 n ≤ c + 1 by omega, show ¬ b0 n = c + 1 by omega]; omega
    · by_cases h2 : b0 n = c + 1
      · have h3 : ¬ c + 1 ≤ c := by omega
        simp [h2, h3]; omega
      · simp [h1, h2, show ¬ b0 n ≤ c + 1 by omega]
theorem hist_take (ns : List Nat) (k : Nat) (h : k < ns.length) (c : Nat) : hist (ns.take (k + 1)) c = hist (ns.take k) c + if b0 (gt ns k) = c then 1 else 0 := by
  unfold hist
  rw [cnt_succ _ ns k h]
  simp
/-- 256 numbers as cells. -/
def fanC (f : Nat → Nat) : Array Value := ((List.range 256).map fun c => Value.int .u32 (f c : Nat)).toArray
theorem fanC_size (f : Nat → Nat) : (fanC f).size = 256 := by simp [fanC]
theorem fanC_get (f : Nat → Nat) (c : Nat) (h : c < 256) : (fanC f)[c]? = some (.int .u32 (f c : Nat)) := by simp [fanC, h]
theorem fanC_one (f : Nat → Nat) : (fanC f).all (·.oneCell') = true := by
  rw [Array.all_eq_true_iff_forall_mem]
  intro v hv
  simp only [fanC, List.mem_toArray, List.mem_map] at hv
  obtain ⟨c, _, rfl⟩ := hv
  rfl
theorem fanC_congr (f g : Nat → Nat) (h : ∀ c, c < 256 → f c = g c) : fanC f = fanC g := by
  unfold fanC
  congr 1
  exact List.map_congr_left (fun c hc => by rw [h c (List.mem_range.1 hc)])
theorem fanC_set (f g : Nat → Nat) (c : Nat) (hc : c < 256) (v : Int) (h : ∀ i, i < 256 → i ≠ c → f i = g i) (hv : v = (g c : Nat)) : (fanC f).setIfInBounds c (.int .u32 v) = fanC g := by
  apply Array.ext_getElem?
  intro j
  rw [Array.getElem?_setIfInBounds]
  split
  · rename_i e
    subst e
    rw [if_pos (by rw [fanC_size]; exact hc), fanC_get g c hc, hv]
  · rename_i e
    rcases Nat.lt_or_ge j 256 with hj | hj
    · rw [fanC_get f j hj, fanC_get g j hj, h j hj (fun e2 => e e2.symm)]
    · rw [Array.getElem?_eq_none (by rw [fanC_size]; exact hj), Array.getElem?_eq_none (by rw [fanC_size]; exact hj)]
/-- The fan-out of ids, as cells. -/
def fanI (ns : List Nat) : Array Value := fanC (fanN ns)
theorem zfan : Tryz.zeroCells72 = fanC (hist []) := by kernel_rfl
theorem size_fan : (Tryz.prog.info? 72).map (·.size) = some 256 := by kernel_rfl
def cumF (ns : List Nat) (m c : Nat) : Nat := if c < m then fanN ns c else hist ns c
theorem wrapu (n : Nat) (h : n ≤ 1000) : IntKind.u32.wrap (n : Int) = n := by rw [IntKind.wrap_u32]; omega
theorem size_IDs : (Tryz.prog.info? 24).map (·.size) = some 32 := by kernel_rfl

set_option maxHeartbeats 3200000 in
set_option maxRecDepth 100000 in
theorem IfanOf_any (A : Option Addr) (cap : Nat) (ns : List Nat) (hn : ns.length ≤ 1000) (w : World) (h : Lies w A (flatI ns)) :
    Calls Tryz.prog 28 #[.slice A ns.length cap] w fun e w' => e = .returned (.agg (fanI ns)) ∧ Fr (fun _ => False) w w' := by
  have HLI := Lib.hid h
  obtain ⟨w0, hw0⟩ : ∃ w0, w.alloc (.cells Tryz.zeroCells72 72) = w0 := ⟨_, rfl⟩
  obtain ⟨w2, hw2⟩ : ∃ w2, w0.alloc (.cells Tryz.zeroCells72 72) = w2 := ⟨_, rfl⟩
  have hF0 : Fr (fun _ => False) w w0 := by subst hw0; exact (Fr.refl _ w).alloc _
  have hF2 : Fr (fun _ => False) w0 w2 := by subst hw2; exact (Fr.refl _ w0).alloc _
  have hs0 : w0.heap.size = w.heap.size + 1 := by subst hw0; simp
  have hR : Whole w2 w.heap.size 72 Tryz.zeroCells72 := by subst hw0; exact (Whole.new w 72 _).fr hF2 (fun e => e)
  have hG : Whole w2 w0.heap.size 72 (fanC (hist (ns.take 0))) := by subst hw2; rw [show ns.take 0 = [] from rfl, ← zfan]; exact Whole.new w0 72 _
  have hs2 : w2.heap.size = w0.heap.size + 1 := by subst hw2; simp
  have HF := Lib.hid (hF0.trans hF2 (fun _ _ e => e))
  have HS0 := Lib.hid hs0
  have HS2 := Lib.hid hs2
  have HR := Lib.hid hR
  have HG := Lib.hid hG
  have HHT := Lib.hid (hist_take ns)
  have HFS := Lib.hid (fanN_succ ns)
  have hFZ := fanN_zero ns
  have HLE := Lib.hid (hist_le ns)
  have HFL := Lib.hid (fanN_le ns)
  have HLE2 := Lib.hid (fun k c => hist_le (ns.take k) c)
  obtain ⟨L, hL⟩ : ∃ L, ns.length = L := ⟨_, rfl⟩
  have HLn := Lib.hid hL
  obtain ⟨T32, hT32⟩ : ∃ T : TypeId, T = 24 := ⟨_, rfl⟩
  obtain ⟨n32, hn32⟩ : ∃ n : Nat, n = 32 := ⟨_, rfl⟩
  have ag32 : ∀ w, (isAgg T32).run Tryz.prog w = .ok true w := by rw [hT32]; exact fun _ => by kernel_rfl
  have sz32 : ∀ w, (sizeOf T32).run Tryz.prog w = .ok n32 w := by rw [hT32, hn32]; exact fun _ => by kernel_rfl
  have HN32 := Lib.hid hn32
  obtain ⟨TF, hTF⟩ : ∃ T : TypeId, T = 72 := ⟨_, rfl⟩
  obtain ⟨n256, h256⟩ : ∃ n : Nat, n = 256 := ⟨_, rfl⟩
  have agF : ∀ w, (isAgg TF).run Tryz.prog w = .ok true w := by rw [hTF]; exact fun _ => by kernel_rfl
  have szF : ∀ w, (sizeOf TF).run Tryz.prog w = .ok n256 w := by rw [hTF, h256]; exact fun _ => by kernel_rfl
  have HN256 := Lib.hid h256
  obtain ⟨G, hGd⟩ : ∃ G, w0.heap.size = G := ⟨_, rfl⟩
  rw [hGd] at HG HS2
  have HGd := Lib.hid hGd
  rw [hL] at hn HHT HLE HFL ⊢
  clear h hL hn32 hF0 hF2 hs0 hs2 hR hG h256
  go_enter Tryz.func28, Tryz.ntmps28
  rw [show Op.load 24 (.tmp 11) = Op.load T32 (.tmp 11) by rw [hT32], show Op.load 72 (.tmp 3) = Op.load TF (.tmp 3) by rw [hTF]]
  clear hT32 hTF
  go_wp2
  try rw [hGd]
  clear hGd hw0 hw2
  go_loopg [9] L (fun kx s9 wr => ∃ k : Nat, s9 = .int .i64 k ∧ k ≤ L ∧ L - k ≤ kx ∧ Whole wr G 72 (fanC (hist (ns.take k))) ∧ Fr (fun j => j = G) w2 wr)
  case atStart => exact ⟨0, rfl, by omega, by omega, HG.out, Fr.refl _ _⟩
  case round =>
    obtain ⟨k, rfl, hk, hkx, hg, hf⟩ := hrel
    obtain ⟨wo, rfl⟩ : ∃ wo, wo = wr := ⟨wr, rfl⟩
    have HFr := Lib.hid hf
    have HGk := Lib.hid hg
    clear hf hg
    have wk := wrap_nat k (by omega)
    by_cases hlt : k < L
    · have hltz : (k : Int) < L := by omega
      obtain ⟨b, o, hB⟩ := HLI.out.some_of (by rw [HLn.out]; omega)
      subst hB
      have l1 : (loadCellsFrom ⟨b, o + k * 32, none⟩ 0 n32 #[]).run Tryz.prog wo = .ok (idC (dgt (gt ns k))) wo := by
        rw [HN32.out]
        exact load_at ((HLI.out.fr HF.out (fun _ _ e => e)).fr HFr.out (fun ad e1 e2 => by
          injection e1 with e1
          subst e1
          have hlt2 : b < w.heap.size := by
            rcases HLI.out with h0 | ⟨b', o', hA, hc⟩
            · have := flatI_len ns
              rw [h0, HLn.out] at this
              simp at this
              omega
            · cases hA
              exact World.block_lt_of_cell? w ⟨b, o + 0, none⟩ (hc 0 _ (by have := flatI_get ns 0 (gt ns 0) 0 (gt_some ns 0 (by rw [HLn.out]; omega)) (by decide); simpa using this))
          simp only at e2
          have := HGd.out
          have := HS0.out
          omega)) (gt_some ns k (by rw [HLn.out]; exact hlt)) (Fr.refl _ _)
      have HDk := Lib.hid (HHT.out k hlt)
      have HB := Lib.hid (b0_lt (gt ns k))
      have HC0 := Lib.hid (idC_get (dgt (gt ns k)) 0 (by decide))
      have HCS := Lib.hid (idC_size (dgt (gt ns k)))
      have HCO := Lib.hid (idC_one (dgt (gt ns k)))
      have hcell : cellD (dgt (gt ns k)) 0 = .int .u8 (b0 (gt ns k) : Nat) := rfl
      rw [hcell] at HC0
      obtain ⟨B, hBd⟩ : ∃ B, b0 (gt ns k) = B := ⟨_, rfl⟩
      obtain ⟨ca, hca⟩ : ∃ c, idC (dgt (gt ns k)) = c := ⟨_, rfl⟩
      rw [hBd] at HDk HB HC0
      rw [hca] at l1 HC0 HCS HCO
      (
        obtain ⟨w1, hw1⟩ : ∃ w1, wo.alloc (.cells zero32 24) = w1 := ⟨_, rfl⟩
        have HZ := Lib.hid (show Whole w1 wo.heap.size 24 zero32 from by subst hw1; exact Whole.new wo 24 zero32)
        have HF1 := Lib.hid (show Fr (fun _ => False) wo w1 from by subst hw1; exact (Fr.refl _ wo).alloc _)
        unfold zero32 at hw1
        simp [List.replicate] at hw1)
      have HGk1 := Lib.hid (HGk.out.fr HF1.out (fun e => e))
      have hsz : wo.heap.size ≠ G := by have := HFr.out.size; have := HS2.out; omega
      have hBi : B < 256 := HB.out
      have HGc : Hid (∀ w3, Whole w3 G 72 (fanC (hist (ns.take k))) → w3.cell? ⟨G, B, none⟩ = some (.int .u32 (hist (ns.take k) B : Nat))) := Lib.hid (fun w3 h3 => by rw [h3.cell, fanC_get _ _ hBi])
      have hh := HLE2.out k B
      rw [List.length_take] at hh
      obtain ⟨H, hH⟩ : ∃ H, hist (ns.take k) B = H := ⟨_, rfl⟩
      rw [hH] at HGc hh
      have HHd := Lib.hid hH
      have hwu : IntKind.u32.wrap ((H : Int) + 1) = (H : Int) + 1 := by rw [IntKind.wrap_u32]; omega
      clear hcell hBd hca hH hh
      go_wp2_with (refine wpList_store_at rfl 24 _ _ rfl wo.heap.size 0 24 zero32 ca rfl rfl HZ.out (by rw [HCS.out]; decide) (by rw [HCS.out]; exact size_IDs) HCO.out ?_; intro w3 hw3 hf3; rw [laidAt_all _ _ (by rw [HCS.out]; rfl)] at hw3; have c0 : w3.cell? ⟨wo.heap.size, 0, none⟩ = some (.int .u8 B) := (by rw [hw3.cell]; exact HC0.out); have HG3 := Lib.hid (HGk1.out.fr hf3 (fun e => hsz e.symm)); have HF3 := Lib.hid ((HFr.out.trans HF1.out (fun _ _ e => e.elim)).trans hf3 (fun i hi e => by have := HFr.out.size; omega)); have c1 := HGc.out w3 HG3.out; have z1 := HG3.out.frozen B; clear hw3 hf3)
      go_roundg (L - (k + 1))
      case measure => omega
      case rel =>
        have hset := HG3.out.set B (.int .u32 ((H : Int) + 1))
        rw [fanC_set (hist (ns.take k)) (hist (ns.take (k + 1))) B hBi _ (fun i _ hi => by rw [HDk.out, if_neg (fun e => hi e.symm)]; rfl) (by rw [HDk.out, if_pos rfl, HHd.out]; push_cast; rfl)] at hset
        exact ⟨k + 1, by go_num, by omega, Nat.le_refl _, hset, HF3.out.setCell (fun _ => rfl) _⟩
    · have hltz : ¬ ((k : Int) < L) := by omega
      have hGd2 : Whole wo G 72 (fanC (cumF ns 1)) := by
        have := HGk.out
        rw [List.take_of_length_le (by rw [HLn.out]; omega)] at this
        rw [fanC_congr (cumF ns 1) (hist ns) (fun c _ => by
          unfold cumF
          rcases Nat.eq_zero_or_pos c with h1 | h1
          · rw [if_pos (by omega), h1, hFZ]
          · rw [if_neg (by omega)])]
        exact this
      have HG1 := Lib.hid hGd2
      clear hGd2 hFZ
      go_wp2
      go_loopw [6] (fun i wr => ∃ m : Nat, 1 ≤ m ∧ m ≤ 256 ∧ i = .int .i64 m ∧ Whole wr G 72 (fanC (cumF ns m)) ∧ Fr (fun j => j = G) w2 wr) (fun i _ => 256 - (intOf i).toNat)
      case atStart => exact ⟨1, by omega, by omega, rfl, HG1.out, HFr.out⟩
      case round =>
        obtain ⟨m, hm1, hm, rfl, hg, hf⟩ := hrel
        by_cases hml : m < 256
        · have hmz : (m : Int) < 256 := by omega
          have c0 : wr.cell? ⟨G, m, none⟩ = some (.int .u32 (hist ns m : Nat)) := by rw [hg.cell, fanC_get _ _ hml, cumF, if_neg (by omega)]
          have c1 : wr.cell? ⟨G, m - 1, none⟩ = some (.int .u32 (fanN ns (m - 1) : Nat)) := by rw [hg.cell, fanC_get _ _ (by omega), cumF, if_pos (by omega)]
          have z0 := hg.frozen m
          have hs := HFS.out (m - 1)
          rw [show m - 1 + 1 = m by omega] at hs
          have hl := HFL.out m
          have HGm := Lib.hid hg
          have HFm := Lib.hid hf
          obtain ⟨X, hX⟩ : ∃ X, hist ns m = X := ⟨_, rfl⟩
          obtain ⟨Y, hY⟩ : ∃ Y, fanN ns (m - 1) = Y := ⟨_, rfl⟩
          obtain ⟨Z, hZ⟩ : ∃ Z, fanN ns m = Z := ⟨_, rfl⟩
          rw [hX] at c0 hs
          rw [hY] at c1 hs
          rw [hZ] at hs hl
          have hwz : IntKind.u32.wrap ((X : Int) + (Y : Int)) = (Z : Int) := by rw [IntKind.wrap_u32]; omega
          have hw1 : IntKind.i64.wrap ((m : Int) - 1) = ((m - 1 : Nat) : Int) := by rw [IntKind.wrap_i64]; omega
          have wm1 : IntKind.i64.wrap ((m : Int) + 1) = (m : Int) + 1 := by rw [IntKind.wrap_i64]; omega
          obtain ⟨p, hp⟩ : ∃ p, m - 1 = p := ⟨_, rfl⟩
          have hpl : p < 256 := by omega
          have hpz : (p : Int) < 256 := by omega
          rw [hp] at c1 hw1
          have HZd := Lib.hid hZ
          clear hX hY hZ hs hl hg hf hp
          go_wp2_with fail
          go_region
          go_wp2_with fail
          go_roundw
          case rel =>
            have hset := HGm.out.set m (.int .u32 (Z : Int))
            rw [fanC_set (cumF ns m) (cumF ns (m + 1)) m hml _ (fun i _ hi => by
              unfold cumF
              by_cases h1 : i < m
              · rw [if_pos h1, if_pos (by omega)]
              · rw [if_neg h1, if_neg (by omega)]) (by unfold cumF; rw [if_pos (by omega), HZd.out])] at hset
            refine ⟨m + 1, by omega, by omega, by go_num, ?_, ?_⟩
            · exact hset
            · first | exact (HFm.out.drewN _).setCell (p := ⟨G, m, none⟩) (fun _ => rfl) _ | exact ((HFm.out.drewN _).setCell (p := ⟨G, m, none⟩) (fun _ => rfl) _).drew
          case measure => simp [intOf]; omega
        · obtain rfl : m = 256 := by omega
          have hfin : fanC (cumF ns 256) = fanI ns := fanC_congr _ _ (fun c hc => by unfold cumF; rw [if_pos hc])
          rw [hfin] at hg
          have l1 : (loadCellsFrom ⟨G, 0, none⟩ 0 n256 #[]).run Tryz.prog wr = .ok (fanI ns) wr := by
            have := load_first hg (Fr.refl _ wr) (n := n256) (by rw [HN256.out]; exact Nat.le_of_eq (fanC_size _).symm)
            rwa [HN256.out, List.take_of_length_le (by rw [Array.length_toList]; exact Nat.le_of_eq (fanC_size _)), Array.toArray_toList, ← HN256.out] at this
          have HRr := Lib.hid (HR.out.fr hf (fun e => by have := HGd.out; have := HS0.out; omega))
          have HFn := Lib.hid hf
          have HFO := Lib.hid (fanC_one (fanN ns))
          have HFZ := Lib.hid (fanC_size (fanN ns))
          have e : fanC (fanN ns) = fanI ns := rfl
          rw [e] at HFO HFZ
          obtain ⟨V, hV⟩ : ∃ V, fanI ns = V := ⟨_, rfl⟩
          rw [hV] at l1 HFO HFZ
          have HV := Lib.hid hV
          clear hV e hg hf hfin
          go_wp2_with (refine wpList_store_at rfl 72 _ _ rfl w.heap.size 0 72 Tryz.zeroCells72 V rfl rfl HRr.out (by rw [HFZ.out, zfan, fanC_size]; exact Nat.le_refl _) (by rw [HFZ.out]; exact size_fan) HFO.out ?_; intro w3 hw3 hf3; rw [laidAt_all _ _ (by rw [zfan, fanC_size, HFZ.out])] at hw3; have HW3 := Lib.hid hw3; have HF3 := Lib.hid ((HF.out.trans HFn.out (fun i hi e => by have := HGd.out; have := HS0.out; omega)).trans hf3 (fun i hi e => by omega)); clear hw3 hf3)
          refine bodyPost_ret (v := .agg V) (results_cell_row (p := 2) rfl _ _ _ _ _ _ _ rfl HW3.out Tryz.underlying72 rfl (by rw [HFZ.out]; exact size_fan)) rfl ?_
          exact ⟨by rw [HV.out], HF3.out⟩
end Go.Proofs.YtgbhdjncccmabaaGreatDoor

/- What is proved: texts that stand one behind the other: Iym Iyn. Conditions: each theorem names its own. -/
import Derived.Test.YtgbhdjncccmabaaDoorQIyh
import Derived.Test.YtgbhdjncccmabaaDoorQIxu
import Derived.Test.YtgbhdjncccmabaaDoorQIyl
/- What is proved: the law's one and like: two places held against one another field by field; an index against the document's. Conditions: each theorem names its own. -/
namespace Go.Proofs.YtgbhdjncccmabaaDoor
open Go.RowKit
set_option linter.unusedVariables false

set_option maxHeartbeats 3200000 in
set_option maxRecDepth 100000 in
theorem Ione_any (p : Pl) (hp : p.id < big) (w : World) : Calls Tryd.prog 40 #[.agg p.cells, .agg p.cells] w fun e w' => e = .returned (.bool true) ∧ Fr (fun _ => False) w w' := by
  obtain ⟨w0, hw0⟩ : ∃ w0, w.alloc (.cells p.cells 49) = w0 := ⟨_, rfl⟩
  obtain ⟨w1, hw1⟩ : ∃ w1, w0.alloc (.cells p.cells 72) = w1 := ⟨_, rfl⟩
  have hF0 : Fr (fun _ => False) w w0 := by subst hw0; exact (Fr.refl _ w).alloc _
  have hF1 : Fr (fun _ => False) w0 w1 := by subst hw1; exact (Fr.refl _ w0).alloc _
  have hA : Whole w1 w.heap.size 49 p.cells := by subst hw0; exact (Whole.new w 49 _).fr hF1 (fun e => e)
  have hB : Whole w1 w0.heap.size 72 p.cells := by subst hw1; exact Whole.new w0 72 _
  have HF := Lib.hid (hF0.trans hF1 (fun _ _ e => e))
  obtain ⟨T32, hT32⟩ : ∃ T : TypeId, T = 24 := ⟨_, rfl⟩
  obtain ⟨n32, hn32⟩ : ∃ n : Nat, n = 32 := ⟨_, rfl⟩
  have ag32 : ∀ w, (isAgg T32).run Tryd.prog w = .ok true w := by rw [hT32]; exact fun _ => by kernel_rfl
  have sz32 : ∀ w, (sizeOf T32).run Tryd.prog w = .ok n32 w := by rw [hT32, hn32]; exact fun _ => by kernel_rfl
  have l1 : (loadCellsFrom ⟨w.heap.size, 0, none⟩ 0 n32 #[]).run Tryd.prog w1 = .ok (idC (dgt p.id)) w1 := load_head hA n32 hn32
  have l2 : (loadCellsFrom ⟨w0.heap.size, 0, none⟩ 0 n32 #[]).run Tryd.prog w1 = .ok (idC (dgt p.id)) w1 := load_head hB n32 hn32
  have c1 : w1.cell? ⟨w.heap.size, 32, none⟩ = some (.int .i64 p.pos) := by rw [hA.cell]; exact plC_pos p
  have c2 : w1.cell? ⟨w0.heap.size, 32, none⟩ = some (.int .i64 p.pos) := by rw [hB.cell]; exact plC_pos p
  have c3 : w1.cell? ⟨w.heap.size, 33, none⟩ = some (.int .u32 p.sm) := by rw [hA.cell]; exact plC_sm p
  have c4 : w1.cell? ⟨w0.heap.size, 33, none⟩ = some (.int .u32 p.sm) := by rw [hB.cell]; exact plC_sm p
  have heq := fun w => eq_nums p.id p.id hp hp w
  rw [show (p.id == p.id) = true from by simp] at heq
  obtain ⟨ci, hci⟩ : ∃ c, idC (dgt p.id) = c := ⟨_, rfl⟩
  obtain ⟨pc, hpc⟩ : ∃ c, p.cells = c := ⟨_, rfl⟩
  obtain ⟨P, hP⟩ : ∃ c, p.pos = c := ⟨_, rfl⟩
  obtain ⟨S, hS⟩ : ∃ c, p.sm = c := ⟨_, rfl⟩
  rw [hci] at l1 l2 heq
  rw [hpc] at hw0 hw1 ⊢
  rw [hP] at c1 c2
  rw [hS] at c3 c4
  clear hci hpc hP hS hn32 hF0 hF1 hA hB
  go_enter Tryd.func40, Tryd.ntmps40
  rw [show Op.load 24 (.tmp 5) = Op.load T32 (.tmp 5) by rw [hT32], show Op.load 24 (.tmp 7) = Op.load T32 (.tmp 7) by rw [hT32]]
  clear hT32
  go_wp2_with fail
  go_ret
  exact ⟨rfl, HF.out⟩
theorem build_zpl (w : World) : (Instr.build 49 #[]).run Tryd.prog w = .ok (.agg zeroPl) w := by kernel_rfl
theorem eq_zpl (w : World) : (Op.equalIn 10000 49 (.agg zeroPl) (.agg zeroPl)).run Tryd.prog w = .ok true w := by kernel_rfl
def litZ : Array Value := #[.int .u8 0, .int .u8 0, .int .u8 0, .int .u8 0, .int .u8 0, .int .u8 0, .int .u8 0, .int .u8 0, .int .u8 0, .int .u8 0, .int .u8 0, .int .u8 0, .int .u8 0, .int .u8 0, .int .u8 0, .int .u8 0, .int .u8 0, .int .u8 0, .int .u8 0, .int .u8 0, .int .u8 0, .int .u8 0, .int .u8 0, .int .u8 0, .int .u8 0, .int .u8 0, .int .u8 0, .int .u8 0, .int .u8 0, .int .u8 0, .int .u8 0, .int .u8 0, .int .i64 0, .int .u32 0]
theorem zpl_lit : zeroPl = litZ := by kernel_rfl
def atP (ps : List Pl) (k : Int) : Pl := if 0 ≤ k ∧ k < ps.length then ps[k.toNat]! else ⟨0, 0, 0⟩
/-- What the calls on an index tell of places, and of a trailer. -/
structure LikeOf (w : World) (ptr : Value) (ps : List Pl) (of : Nat) : Prop where
  le : ∀ w', Fr (fun _ => False) w w' → Calls Tryd.prog 15 #[ptr] w' fun e w'' => e = .returned (.int .i64 ps.length) ∧ w' = w''
  of : ∀ w', Fr (fun _ => False) w w' → Calls Tryd.prog 16 #[ptr] w' fun e w'' => e = .returned (.agg (idC (dgt of))) ∧ Below w'.heap.size w' w''
  at' : ∀ (k : Int) w', Fr (fun _ => False) w w' → Calls Tryd.prog 18 #[ptr, .int .i64 k] w' fun e w'' => e = .returned (.agg (atP ps k).cells) ∧ Below w'.heap.size w' w''
theorem load_qof {w : World} {Y : Nat} {v : Value} {of : Nat} (h : Whole w Y 40 (qixC v (idC (dgt of)))) (n : Nat) (hn : n = 32) : (loadCellsFrom ⟨Y, 1, none⟩ 0 n #[]).run Tryd.prog w = .ok (idC (dgt of)) w := by
  have h2 := run_loadCells_list (P := Tryd.prog) w ⟨Y, 1, none⟩ (idC (dgt of)).toList (fun j v hv => by
    rw [add_off, h.cell, qixC, Array.getElem?_append_right (by simp)]
    simpa using hv)
  rw [Array.length_toList, idC_size, Array.toArray_toList] at h2
  rw [hn]
  simpa [loadCells] using h2

set_option maxHeartbeats 6400000 in
set_option maxRecDepth 100000 in
theorem Ilike_any (ptr : Value) (hpt : ∃ a, ptr = .pointer a) (ps : List Pl) (of : Nat) (hof : of < big) (hid : ∀ p ∈ ps, p.id < big) (A : Option Addr) (c : Nat) (hn : ps.length ≤ 1000) (w : World) (h : LikeOf w ptr ps of) (hl : Lies w A (flatP ps)) :
    Calls Tryd.prog 14 #[ptr, .agg (qixC (.slice A ps.length c) (idC (dgt of)))] w fun e w' => e = .returned (.bool true) ∧ Fr (fun _ => False) w w' := by
  obtain ⟨w0, hw0⟩ : ∃ w0, w.alloc (.cells (qixC (.slice A ps.length c) (idC (dgt of))) 40) = w0 := ⟨_, rfl⟩
  have hF0 : Fr (fun _ => False) w w0 := by subst hw0; exact (Fr.refl _ w).alloc _
  have hY : Whole w0 w.heap.size 40 (qixC (.slice A ps.length c) (idC (dgt of))) := by subst hw0; exact Whole.new w 40 _
  have HF0 := Lib.hid hF0
  have HY := Lib.hid hY
  have HLE := Lib.hid (fun wq (f : Fr (fun _ => False) w0 wq) => h.le wq (hF0.trans f (fun _ _ e => e)))
  have HOF := Lib.hid (fun wq (f : Fr (fun _ => False) w0 wq) => h.of wq (hF0.trans f (fun _ _ e => e)))
  have HAT := Lib.hid (fun k wq (f : Fr (fun _ => False) w0 wq) => h.at' k wq (hF0.trans f (fun _ _ e => e)))
  have HON := Lib.hid (fun (p : Pl) (hp : p.id < big) w => Ione_any p hp w)
  have HLI := Lib.hid (hl.fr hF0 (fun _ _ e => e))
  have HID := Lib.hid hid
  have hz := zpl
  have HAZ : Hid (∀ k : Int, ¬ (0 ≤ k ∧ k < ps.length) → (atP ps k).cells = zeroPl) := Lib.hid (fun k hk => by unfold atP; rw [if_neg hk, hz])
  have HAP : Hid (∀ k : Nat, k < ps.length → atP ps k = ps[k]!) := Lib.hid (fun k hk => by unfold atP; rw [if_pos ⟨by omega, by omega⟩]; simp)
  have heq := fun w => eq_nums of of hof hof w
  rw [show (of == of) = true from by simp] at heq
  obtain ⟨T32, hT32⟩ : ∃ T : TypeId, T = 24 := ⟨_, rfl⟩
  obtain ⟨n32, hn32⟩ : ∃ n : Nat, n = 32 := ⟨_, rfl⟩
  have ag32 : ∀ w, (isAgg T32).run Tryd.prog w = .ok true w := by rw [hT32]; exact fun _ => by kernel_rfl
  have sz32 : ∀ w, (sizeOf T32).run Tryd.prog w = .ok n32 w := by rw [hT32, hn32]; exact fun _ => by kernel_rfl
  obtain ⟨T34, hT34⟩ : ∃ T : TypeId, T = 72 := ⟨_, rfl⟩
  obtain ⟨n34, hn34⟩ : ∃ n : Nat, n = 34 := ⟨_, rfl⟩
  have ag34 : ∀ w, (isAgg T34).run Tryd.prog w = .ok true w := by rw [hT34]; exact fun _ => by kernel_rfl
  have sz34 : ∀ w, (sizeOf T34).run Tryd.prog w = .ok n34 w := by rw [hT34, hn34]; exact fun _ => by kernel_rfl
  have HN34 := Lib.hid hn34
  have lY : ∀ q : Later w0, (loadCellsFrom ⟨w.heap.size, 1, none⟩ 0 n32 #[]).run Tryd.prog q.w' = .ok (idC (dgt of)) q.w' := fun q => load_qof (hY.fr q.fr (fun e => e)) n32 hn32
  have CY : Hid (∀ wq, Fr (fun _ => False) w0 wq → wq.cell? ⟨w.heap.size, 0, none⟩ = some (.slice A ps.length c)) := Lib.hid (fun wq f => by rw [(HY.out.fr f (fun e => e)).cell]; exact qixC_at _ _)
  have heqz := eq_zpl
  rw [zpl_lit] at heqz HAZ
  unfold litZ at heqz HAZ
  obtain ⟨L, hL⟩ : ∃ L, ps.length = L := ⟨_, rfl⟩
  have HLn := Lib.hid hL
  rw [hL] at hw0 HLE HAZ HAP CY hn ⊢
  obtain ⟨co, hco⟩ : ∃ c, idC (dgt of) = c := ⟨_, rfl⟩
  rw [hco] at HOF heq lY hw0 ⊢
  obtain ⟨qc, hqc⟩ : ∃ q, qixC (.slice A L c) co = q := ⟨_, rfl⟩
  rw [hqc] at hw0 ⊢
  obtain ⟨pa, rfl⟩ := hpt
  have hcY : ∀ q : Later w0, q.w'.cell? ⟨w.heap.size, 0, none⟩ = some (.slice A L c) := fun q => CY.out q.w' q.fr
  have HLq := Lib.hid (fun q : Later w0 => HLE.out q.w' q.fr)
  have HOq := Lib.hid (fun q : Later w0 => HOF.out q.w' q.fr)
  have hLL : ((L : Int) == (L : Int)) = true := by simp
  clear hY hF0 hn32 hn34 hz hL hco hqc h hl hof hid
  go_enter Tryd.func14, Tryd.ntmps14
  rw [show Op.load 24 (.tmp 15) = Op.load T32 (.tmp 15) by rw [hT32], show Op.load 72 (.tmp 32) = Op.load T34 (.tmp 32) by rw [hT34]]
  clear hT32 hT34
  go_upto_region 1 with fail
  refine wp_region_later (w0 := w0) (Fr.refl _ _) (by kernel_rfl) (by kernel_rfl) ?_
  repeat (quiet_step (first | (go_at_call 15; refine Calls.later_of_same (HLq.out _)) | (go_at_call 16; refine Calls.later_of (HOq.out _))))
  refine wpQuiet_nil ?_
  intro _ hw'
  obtain ⟨q, hw''⟩ := hw'
  subst hw''
  have HFq := Lib.hid q.fr
  obtain ⟨w1, hw1⟩ : ∃ w1, q.w' = w1 := ⟨_, rfl⟩
  rw [hw1] at HFq ⊢
  clear hw1 q lY hcY heq hLL
  go_wp2_with fail
  go_loopg [5] L (fun kx s5 wr => ∃ k : Nat, s5 = .int .i64 k ∧ k ≤ L ∧ L - k ≤ kx ∧ Hid (Fr (fun _ => False) w0 wr))
  case atStart => exact ⟨0, rfl, by omega, by omega, HFq⟩
  case round =>
    obtain ⟨k, rfl, hk, hkx, HFr⟩ := hrel
    obtain ⟨wo, rfl⟩ : ∃ wo, wo = wr := ⟨wr, rfl⟩
    have wk := wrap_nat k (by omega)
    have hcy := CY.out wo HFr.out
    by_cases hlt : k < L
    · have hltz : (k : Int) < L := by omega
      obtain ⟨b, o, hA⟩ := HLI.out.someP (by rw [HLn.out]; omega)
      subst hA
      have hg := some_pl (ps := ps) (i := k) (by rw [HLn.out]; exact hlt)
      have hat := fun q : Later wo => HAT.out k q.w' (HFr.out.trans q.fr (fun _ _ e => e))
      rw [HAP.out k hlt] at hat
      have hon := fun w => HON.out (ps[k]!) (HID.out _ (List.mem_of_getElem? hg)) w
      have l1 : ∀ q : Later wo, (loadCellsFrom ⟨b, o + k * 34, none⟩ 0 n34 #[]).run Tryd.prog q.w' = .ok (ps[k]!).cells q.w' := fun q => load_pl HLI.out hg (HFr.out.trans q.fr (fun _ _ e => e)) n34 HN34.out
      have cy : ∀ q : Later wo, q.w'.cell? ⟨w.heap.size, 0, none⟩ = some (.slice (some ⟨b, o, none⟩) L c) := fun q => CY.out _ (HFr.out.trans q.fr (fun _ _ e => e))
      obtain ⟨pc, hpc⟩ : ∃ c, (ps[k]!).cells = c := ⟨_, rfl⟩
      rw [hpc] at hat hon l1
      have HATq := Lib.hid hat
      have HONq := Lib.hid (show ∀ q : Later wo, Calls Tryd.prog 40 #[.agg pc, .agg pc] q.w' fun e w' => e = .returned (.bool true) ∧ Below q.w'.heap.size q.w' w' from fun q => (hon q.w').mono (fun e w'' h => ⟨h.1, h.2.below (fun _ _ e => e)⟩))
      clear hg hat hon hpc
      go_upto_region 6 with fail
      refine wp_region_later (w0 := wo) (Fr.refl _ _) (by kernel_rfl) (by kernel_rfl) ?_
      repeat (quiet_step (first | (go_at_call 18; refine Calls.later_of (HATq.out _)) | (go_at_call 40; refine Calls.later_of (HONq.out _))))
      refine wpQuiet_nil ?_
      intro _ hw'
      obtain ⟨q, hw''⟩ := hw'
      subst hw''
      clear l1 cy hcy
      go_wp2_with fail
      go_roundg (L - (k + 1))
      case measure => omega
      case rel => exact ⟨k + 1, by go_num, by omega, Nat.le_refl _, Lib.hid (HFr.out.trans q.fr (fun _ _ e => e))⟩
    · have hltz : ¬ ((k : Int) < L) := by omega
      obtain rfl : L = k := by omega
      have h1 := HAT.out (-1) wo HFr.out
      rw [HAZ.out (-1) (by omega)] at h1
      have H1 := Lib.hid h1
      have H2 := Lib.hid (fun wq (f : Fr (fun _ => False) w0 wq) => (by
        have := HAT.out L wq f
        rw [HAZ.out L (by omega)] at this
        exact this : Calls Tryd.prog 18 #[.pointer pa, .int .i64 L] wq _))
      clear h1
      go_upto_region 8 with fail
      clear hcy
      go_wp2_with (first
        | (have _ := M1; go_at_call 18; refine (H2.out wa HFa.out).mono ?_; rintro e wb ⟨rfl, b2⟩; have HFb := Lib.hid (HFa.out.then_below b2); clear b2)
        | (go_at_call 18; refine H1.out.mono ?_; rintro e wa ⟨rfl, b1⟩; have HFa := Lib.hid (HFr.out.then_below b1); have hca := CY.out wa HFa.out; have M1 := True.intro; clear b1))
      go_ret
      exact ⟨rfl, HF0.out.trans HFb.out (fun _ _ e => e)⟩
end Go.Proofs.YtgbhdjncccmabaaDoor
/- What is proved: the walk of the law IndexOpens. Conditions: the argument's cells are there; the table of the sums lies as its text lays it. -/
namespace Go.Proofs.YtgbhdjncccmabaaDoor
open Go.RowKit
set_option linter.unusedVariables false

theorem ptr_nnil (w : World) : (binOp .neq 36 (.pointer none) (.pointer none)).run Tryd.prog w = .ok (.bool false) w := by kernel_rfl
theorem ptr_nsome (a : Addr) (w : World) : (binOp .neq 36 (.pointer (some a)) (.pointer none)).run Tryd.prog w = .ok (.bool true) w := by kernel_rfl
theorem like_nil (w : World) : LikeOf w (.pointer none) [] 0 where
  le w' _ := ILen_nil w'
  of w' _ := (IOf_nil w').mono (fun e w'' h => ⟨h.1, h.2.below (fun _ _ e => e)⟩)
  at' k w' _ := by
    have := IAt_nil k w'
    have e : atP [] k = ⟨0, 0, 0⟩ := by unfold atP; rw [if_neg (by simp)]
    rw [e]
    exact this.mono (fun e w'' h => ⟨h.1, h.2.below (fun _ _ e => e)⟩)
theorem like_ix (b : List UInt8) (hn : nB b ≤ 600) (w : World) (X : Nat) (A1 A2 A3 : Option Addr) (c1 c2 c3 : Nat)
    (h : IX w X (nB b) A1 c1 A2 c2 A3 c3 (fanR (midB b)) (keyR (midB b)) (smR (midB b) (nB b)) (atR (midB b) (nB b)) (ofR (midB b) (nB b))) :
    LikeOf w (.pointer (some ⟨X, 0, none⟩)) (plsB b) (ofR (midB b) (nB b)) where
  le w' f := by rw [plsB_len]; exact ILen_any _ _ _ _ _ _ _ _ _ _ _ _ _ w' (h.fr f)
  of w' f := (IOf_any _ _ _ _ _ _ _ _ _ _ _ _ _ w' (h.fr f)).mono (fun e w'' h => ⟨h.1, h.2.below (fun _ _ e => e)⟩)
  at' k w' f := by
    have := IAt_any X (nB b) A1 A2 A3 c1 c2 c3 (fanR (midB b)) (keyR (midB b)) (smR (midB b) (nB b)) (atR (midB b) (nB b)) (ofR (midB b) (nB b)) k (by omega) (fun j _ => u4_lt _ _) w' (h.fr f)
    have e : atI (nB b) (keyR (midB b)) (smR (midB b) (nB b)) (atR (midB b) (nB b)) k = atP (plsB b) k := by
      unfold atI atP
      rw [plsB_len]
      by_cases hk : 0 ≤ k ∧ k < nB b
      · rw [if_pos hk, if_pos hk, plsB_at b _ (by omega)]
      · rw [if_neg hk, if_neg hk]
    rw [e] at this
    exact this.mono (fun e w'' h => ⟨h.1, h.2.below (fun _ _ e => e)⟩)

set_option maxHeartbeats 6400000 in
set_option maxRecDepth 100000 in
theorem opens_walk (B : Option Addr) (c : Nat) (bs : List UInt8) (hc : bs.length ≤ c) (w : World) (hb : Lies w B (bytesV bs)) (ht : Tab w) :
    Calls Tryd.prog 4 #[.slice B bs.length c] w fun e w' => e = .returned (.bool true) ∧ Fr (fun _ => False) w w' := by
  have HWK := Lib.hid (fun w' (f : Fr (fun _ => False) w w') => Iworks_any w' (ht.fr f (fun e => e)))
  by_cases hbig : 4000 < bs.length
  · obtain ⟨M, hM⟩ : ∃ M, bs.length = M := ⟨_, rfl⟩
    rw [hM] at hbig ⊢
    clear hM hc hb ht
    have h1z : (4000 : Int) < (M : Int) := by omega
    clear hbig
    go_enter Tryd.func4, Tryd.ntmps4
    go_wp2_with (go_at_call 7; refine (HWK.out _ (Fr.refl _ _)).mono ?_; rintro e w9 ⟨rfl, f9⟩; have HF9 := Lib.hid f9; clear f9)
    go_ret
    exact ⟨rfl, HF9.out⟩
  · obtain ⟨i0, hi, hz0, hz1, hz2⟩ := info_parts info_u8
    have HBI := Lib.hid (fun w' (f : Fr (fun _ => False) w w') => hb.fr f (fun _ _ e => e))
    have HOP := Lib.hid (fun (w' : World) A' c' (f : Fr (fun _ => False) w w') (hc' : bs.length ≤ c') (hl : Lies w' A' (bytesV bs)) => IOpen_any A' c' bs hc' (by omega) w' hl (ht.fr f (fun e => e)))
    have HQP := Lib.hid (fun (w' : World) (f : Fr (fun _ => False) w w') => QIOpen_any B c bs hc (by omega) w' (hb.fr f (fun _ _ e => e)))
    unfold OpPost at HOP
    unfold QOpPost at HQP
    have HSM := Lib.hid (fun w' A' c' B' d' (h1 : Lies w' A' (bytesV bs)) (h2 : Lies w' B' (bytesV bs)) => Same_any A' B' c' d' bs bs w' h1 h2)
    rw [show (bs == bs) = true from by simp] at HSM
    have HMO := Lib.hid (fun (h : opE bs = 0) => (cnt_ok (opE_ok h).1).2.2.1)
    obtain ⟨M, hM⟩ : ∃ M, bs.length = M := ⟨_, rfl⟩
    have HM := Lib.hid hM
    rw [hM] at hc HOP HQP HSM hbig ⊢
    have hm4 : M ≤ 4000 := by omega
    have h1z : ¬ ((4000 : Int) < (M : Int)) := by omega
    clear hM hb ht hc hbig
    obtain ⟨T33, hT33⟩ : ∃ T : TypeId, T = 40 := ⟨_, rfl⟩
    obtain ⟨n33, hn33⟩ : ∃ n : Nat, n = 33 := ⟨_, rfl⟩
    have ag33 : ∀ w, (isAgg T33).run Tryd.prog w = .ok true w := by rw [hT33]; exact fun _ => by kernel_rfl
    have sz33 : ∀ w, (sizeOf T33).run Tryd.prog w = .ok n33 w := by rw [hT33, hn33]; exact fun _ => by kernel_rfl
    have HN33 := Lib.hid hn33
    go_enter Tryd.func4, Tryd.ntmps4
    rw [show Op.load 40 (.tmp 6) = Op.load T33 (.tmp 6) by rw [hT33]]
    clear hT33 hn33
    go_upto_region 4 with (at_builtin; refine wpList_append_row _ rfl (.tmp 13) (.tmp 14) 26 26 rfl w.heap.size 5 i0 (.int .u8 0) 1 1 Tryd.underlying26 hi hz0 hz1 hz2 rfl (.slice (some ⟨w.heap.size, 0, none⟩) 0 0) 0 [] rfl (own_empty w 5 1) (.slice B M c) M (bytesV bs) rfl (Lies.srcB (HBI.out _ ((Fr.refl (fun _ => False) w).alloc _)) HM.out c) (by unfold maxLen; omega) (by omega) (by simp) ?_; intro v1 w1 o1 g1 a1; have HF1 := Lib.hid (fr_append (own_empty w 5 1) ((Fr.refl (fun _ => False) w).alloc _) g1); obtain ⟨A1, c1, hv1, hk1, -⟩ := own_slice o1; rw [Nat.zero_add] at hv1 hk1; subst hv1; have HO1 := Lib.hid o1; have HK1 := Lib.hid hk1; clear o1 g1 a1 hk1)
    have ho1 := HO1.out
    rw [List.nil_append, Nat.zero_add] at ho1
    have HO := Lib.hid ho1
    have HL1 := Lib.hid (Lies.of_own ho1)
    clear ho1
    by_cases hE : opE bs = 0
    · have hn6 := HMO.out hE
      have HPL := Lib.hid (plsB_len bs)
      have HPO := Lib.hid (plsB_ok bs)
      have HLX := Lib.hid (fun w' X A1 A2 A3 c1 c2 c3 h => like_ix bs hn6 w' X A1 A2 A3 c1 c2 c3 h)
      have HQS := Lib.hid (fun A3 c3 => qixC_size (.slice A3 (nB bs) c3) (ofR (midB bs) (nB bs)))
      have HQO := Lib.hid (fun A3 c3 => qixC_one A3 (nB bs) c3 (ofR (midB bs) (nB bs)))
      have HOFB : Hid (ofR (midB bs) (nB bs) < big) := Lib.hid (by
        unfold ofR
        have h := bigV_lt (((midB bs).drop (1024 + 40 * nB bs)).take 32)
        have h2 : (((midB bs).drop (1024 + 40 * nB bs)).take 32).length ≤ 32 := by rw [List.length_take]; omega
        have h3 : 256 ^ (((midB bs).drop (1024 + 40 * nB bs)).take 32).length ≤ 256 ^ 32 := Nat.pow_le_pow_right (by decide) h2
        exact Nat.lt_of_lt_of_le h h3)
      have HLK := Lib.hid (fun (w' : World) ptr hpt A3 c3 (h : LikeOf w' ptr (plsB bs) (ofR (midB bs) (nB bs))) (hl : Lies w' A3 (flatP (plsB bs))) => Ilike_any ptr hpt (plsB bs) (ofR (midB bs) (nB bs)) HOFB.out (fun p hp => (HPO.out p hp).id) A3 c3 (by rw [HPL.out]; omega) w' h hl)
      rw [HPL.out] at HLK
      rw [hE] at HOP HQP
      have hps := ptr_nsome
      obtain ⟨n, hn⟩ : ∃ n, nB bs = n := ⟨_, rfl⟩
      obtain ⟨of, hof⟩ : ∃ f, ofR (midB bs) (nB bs) = f := ⟨_, rfl⟩
      rw [hof] at HQP HQS HQO HLK
      have HOFd := Lib.hid hof
      rw [hn] at HQP HQS HQO HLK
      clear hn6
      go_upto_region 5 with (go_at_call 12; refine (HOP.out w1 A1 c1 HF1.out HK1.out HL1.out).mono ?_; rintro e w2 ⟨f2, ⟨h0, -⟩ | ⟨-, X, g1, g2, g3, rfl, hx⟩⟩; exact absurd rfl h0; have HX2 := Lib.hid hx; have Hf2 := Lib.hid f2; have HF2 := Lib.hid (HF1.out.trans f2 (fun _ _ e => e)); clear f2 hx)
      go_upto_region 6 with (first
        | (go_at_call 13
           refine (HQP.out w2 HF2.out).mono ?_
           rintro e w3 ⟨f3, ⟨h0, -⟩ | ⟨-, A3, c3, rfl, -, l3, b3⟩⟩
           exact absurd rfl h0
           have Hf3 := Lib.hid f3
           have HL3 := Lib.hid l3
           have HB3 := Lib.hid b3
           have hqs := HQS.out A3 c3
           have hqo := HQO.out A3 c3
           obtain ⟨QC, hQC⟩ : ∃ q, qixC (.slice A3 n c3) (idC (dgt of)) = q := ⟨_, rfl⟩
           rw [hQC] at hqs hqo ⊢
           have HQCd := Lib.hid hQC
           have HQCs := Lib.hid hqs
           have HQCo := Lib.hid hqo
           obtain ⟨wz, hwz⟩ : ∃ wz, w3.alloc (.cells zqx 40) = wz := ⟨_, rfl⟩
           have HZ := Lib.hid (show Whole wz w3.heap.size 40 zqx from by subst hwz; exact Whole.new w3 40 _)
           have HFz := Lib.hid (show Fr (fun _ => False) w3 wz from by subst hwz; exact (Fr.refl _ w3).alloc _)
           unfold zqx at hwz
           simp [List.replicate] at hwz
           clear f3 l3 b3 hqs hqo hQC)
        | (refine wpList_store_at rfl 40 _ _ rfl w3.heap.size 0 40 zqx QC rfl rfl HZ.out (by rw [HQCs.out]; decide) (by rw [HQCs.out]; exact size_qx) HQCo.out ?_
           intro w4 hw4 hf4
           rw [laidAt_all _ _ (by rw [HQCs.out]; rfl)] at hw4
           have HY4 := Lib.hid hw4
           have Hf34 := Lib.hid (HFz.out.trans hf4 (fun i hi e => by omega))
           clear hw4 hf4))
      have Hf24 := Lib.hid (Hf3.out.trans Hf34.out (fun _ _ e => e))
      have Hf14 := Lib.hid (Hf2.out.trans Hf24.out (fun _ _ e => e))
      have HF4 := Lib.hid (HF1.out.trans Hf14.out (fun _ _ e => e))
      clear hn hof
      go_upto_region 8 with (go_at_call 11; refine (HSM.out w4 _ _ _ _ (HL1.out.fr Hf14.out (fun _ _ e => e)) (HBI.out w4 HF4.out)).mono ?_; rintro e w10 ⟨rfl, rfl⟩)
      have HX4 := Lib.hid (HX2.out.frF Hf24.out)
      have HL4 := Lib.hid (HL3.out.fr Hf34.out (fun _ _ e => e))
      have HGB : Hid (∀ j, (Value.slice A1 M c1).ownBlock = some j → w.heap.size ≤ j ∧ j < w1.heap.size) := Lib.hid (fun j e => World.ownsRow.lt HO.out j e)
      have HSZ := Lib.hid (show w1.heap.size ≤ w2.heap.size from Hf2.out.size)
      have HLB := Lib.hid (fun ad (e : A3 = some ad) => HB3.out ad e)
      have HXK := Lib.hid (fun wq (f : Fr (fun j => (Value.slice A1 M c1).ownBlock = some j) w4 wq) => (by
        rcases own_shape HO.out with ⟨h1, -, -⟩ | ⟨g, cap, h1, -⟩
        · injection h1 with h1
          refine (HX4.out.frF (f.mono (fun i hi e => ?_))).ix
          rw [h1] at e; cases e
        · injection h1 with h1
          refine (HX4.out.frB (f.mono (T := fun j => j = g) (fun i hi e => ?_)) (HGB.out g (by rw [h1]; rfl)).2).ix
          rw [h1] at e; injection e with e; exact e.symm : IX wq X (nB bs) _ _ _ _ _ _ _ _ _ _ _))
      go_wp2_with fail
      go_loopg [8] M (fun kx s8 wr => ∃ (k : Nat) (ys : List Value), s8 = .int .i64 k ∧ k ≤ M ∧ M - k ≤ kx ∧ Hid (∀ j, j < M → ∃ x : Int, ys[j]? = some (.int .u8 x)) ∧ Hid (wr.ownsRow w.heap.size 5 1 (.slice A1 M c1) M ys) ∧ Hid (Fr (fun j => (Value.slice A1 M c1).ownBlock = some j) w4 wr))
      case atStart => exact ⟨0, bytesV bs, rfl, by omega, by omega, Lib.hid (fun j hj => ⟨_, by rw [bytesV, List.getElem?_map, List.getElem?_eq_getElem (by rw [HM.out]; exact hj)]; rfl⟩), Lib.hid (own_fr HO.out Hf14.out (fun _ _ e => e)), Lib.hid (Fr.refl _ _)⟩
      case round =>
        obtain ⟨k, ys, rfl, hk, hkx, HYL, HOW, HFr⟩ := hrel
        obtain ⟨wo, rfl⟩ : ∃ wo, wo = wr := ⟨wr, rfl⟩
        have wk := wrap_nat k (by omega)
        by_cases hlt : k < M
        · have hltz : (k : Int) < M := by omega
          have hk0 : (0 : Int) ≤ k := by omega
          obtain ⟨g, hA1⟩ : ∃ g, A1 = some ⟨g, 0, none⟩ := by
            rcases own_shape HOW.out with ⟨h1, h2, _⟩ | ⟨g, cap, h1, _⟩
            · omega
            · injection h1 with h1; exact ⟨g, h1⟩
          subst hA1
          have hcc := World.ownsRow.cellAt HOW.out k (by omega)
          have hzz := World.ownsRow.frozenAt HOW.out k
          obtain ⟨x, hx⟩ := HYL.out k hlt
          rw [hx] at hcc
          clear hx
          go_wp2_with fail
          have hst := World.ownsRow.stored HOW.out k (.int .u8 (bits BinOp.xor IntKind.u8 x 255))
          have HST := Lib.hid hst.1
          have HFS := Lib.hid (HFr.out.setCell (p := ⟨g, k, none⟩) (fun _ => rfl) (.int .u8 (bits BinOp.xor IntKind.u8 x 255)))
          clear hst
          go_roundg (M - (k + 1))
          case measure => omega
          case rel => exact ⟨k + 1, _, rfl, by omega, Nat.le_refl _, Lib.hid (fun j hj => by
            rw [List.getElem?_set]
            by_cases e : k = j
            · obtain ⟨z, hz⟩ := HYL.out j hj
              have := (List.getElem?_eq_some_iff.1 hz).1
              rw [if_pos e, if_pos (by omega)]
              exact ⟨_, rfl⟩
            · rw [if_neg e]; exact HYL.out j hj), HST, HFS⟩
        · have hltz : ¬ ((k : Int) < M) := by omega
          obtain rfl : M = k := by omega
          have hyo := HY4.out.fr HFr.out (fun e => by have := HGB.out _ e; have := Hf3.out.size; have := HSZ.out; omega)
          have l33 := load_wholeQ hyo n33 (by rw [HN33.out, HQCs.out])
          have hlk := HLK.out wo (.pointer (some ⟨X, 0, none⟩)) ⟨_, rfl⟩ A3 c3 (by have := HLX.out wo X _ _ _ _ _ _ (HXK.out wo HFr.out); rw [HOFd.out] at this; exact this) (HL4.out.fr HFr.out (fun ad e1 e2 => by have := HGB.out _ e2; have := HLB.out ad e1; have := HSZ.out; omega))
          rw [HQCd.out] at hlk
          have HLK2 := Lib.hid hlk
          have HFw := Lib.hid (show Fr (fun _ => False) w wo from HF4.out.trans HFr.out (fun i hi e => by have := (HGB.out i e).1; omega))
          clear hyo hlk
          go_wp2_with (first
            | (go_at_call 14; refine HLK2.out.mono ?_; rintro e wl ⟨rfl, fl⟩; have HFl := Lib.hid (HFw.out.trans fl (fun _ _ e => e)); clear fl)
            | (go_at_call 7; refine (HWK.out _ HFl.out).mono ?_; rintro e w11 ⟨rfl, f11⟩; have HF11 := Lib.hid (HFl.out.trans f11 (fun _ _ e => e)); clear f11))
          go_ret
          exact ⟨rfl, HF11.out⟩
    · have hpn := ptr_nnil
      have HLK := Lib.hid (fun (w' : World) ptr hpt A3 c3 (h : LikeOf w' ptr [] 0) (hl : Lies w' A3 (flatP [])) => Ilike_any ptr hpt [] 0 (Nat.pow_pos (by decide)) (fun p hp => by cases hp) A3 c3 (by decide) w' h hl)
      rw [show ([] : List Pl).length = 0 from rfl] at HLK
      have HQS := Lib.hid zqx_size
      have HQO := Lib.hid zqx_one
      have hqe : zqx = qixC (.slice none 0 0) (idC (dgt 0)) := by rw [zqx_eq, zero_id]
      obtain ⟨E, hEd⟩ : ∃ E, opE bs = E := ⟨_, rfl⟩
      rw [hEd] at HOP HQP hE
      have HE := Lib.hid hE
      have hEb : (E == 0) = false := by simpa using hE
      have hEE : (E == E) = true := by simp
      clear hEd
      go_upto_region 5 with (go_at_call 12; refine (HOP.out w1 A1 c1 HF1.out HK1.out HL1.out).mono ?_; rintro e w2 ⟨f2, ⟨-, rfl⟩ | ⟨h0, -⟩⟩; rotate_left; exact absurd h0 HE.out; have Hf2 := Lib.hid f2; have HF2 := Lib.hid (HF1.out.trans f2 (fun _ _ e => e)); clear f2)
      obtain ⟨QC, hQC⟩ : ∃ q, zqx = q := ⟨_, rfl⟩
      rw [hQC] at HQP HQS HQO hqe
      have HQCd := Lib.hid hqe
      have HQZ := Lib.hid hQC
      clear hqe hQC
      go_upto_region 6 with (first
        | (go_at_call 13
           refine (HQP.out w2 HF2.out).mono ?_
           rintro e w3 ⟨f3, ⟨-, rfl⟩ | ⟨h0, -⟩⟩
           rotate_left
           exact absurd h0 HE.out
           have Hf3 := Lib.hid f3
           obtain ⟨wz, hwz⟩ : ∃ wz, w3.alloc (.cells zqx 40) = wz := ⟨_, rfl⟩
           have HZ := Lib.hid (show Whole wz w3.heap.size 40 zqx from by subst hwz; exact Whole.new w3 40 _)
           have HFz := Lib.hid (show Fr (fun _ => False) w3 wz from by subst hwz; exact (Fr.refl _ w3).alloc _)
           unfold zqx at hwz
           simp [List.replicate] at hwz
           clear f3)
        | (refine wpList_store_at rfl 40 _ _ rfl w3.heap.size 0 40 zqx QC rfl rfl HZ.out (by rw [HQS.out]; decide) (by rw [HQS.out]; exact size_qx) HQO.out ?_
           intro w4 hw4 hf4
           rw [laidAt_all _ _ (by rw [HQS.out]; rfl)] at hw4
           have HY4 := Lib.hid hw4
           have Hf34 := Lib.hid (HFz.out.trans hf4 (fun i hi e => by omega))
           clear hw4 hf4))
      have Hf24 := Lib.hid (Hf3.out.trans Hf34.out (fun _ _ e => e))
      have Hf14 := Lib.hid (Hf2.out.trans Hf24.out (fun _ _ e => e))
      have HF4 := Lib.hid (HF1.out.trans Hf14.out (fun _ _ e => e))
      go_upto_region 8 with (go_at_call 11; refine (HSM.out w4 _ _ _ _ (HL1.out.fr Hf14.out (fun _ _ e => e)) (HBI.out w4 HF4.out)).mono ?_; rintro e w10 ⟨rfl, rfl⟩)
      have HGB : Hid (∀ j, (Value.slice A1 M c1).ownBlock = some j → w.heap.size ≤ j ∧ j < w1.heap.size) := Lib.hid (fun j e => World.ownsRow.lt HO.out j e)
      have HSZ := Lib.hid (show w1.heap.size ≤ w2.heap.size from Hf2.out.size)
      go_wp2_with fail
      go_loopg [8] M (fun kx s8 wr => ∃ (k : Nat) (ys : List Value), s8 = .int .i64 k ∧ k ≤ M ∧ M - k ≤ kx ∧ Hid (∀ j, j < M → ∃ x : Int, ys[j]? = some (.int .u8 x)) ∧ Hid (wr.ownsRow w.heap.size 5 1 (.slice A1 M c1) M ys) ∧ Hid (Fr (fun j => (Value.slice A1 M c1).ownBlock = some j) w4 wr))
      case atStart => exact ⟨0, bytesV bs, rfl, by omega, by omega, Lib.hid (fun j hj => ⟨_, by rw [bytesV, List.getElem?_map, List.getElem?_eq_getElem (by rw [HM.out]; exact hj)]; rfl⟩), Lib.hid (own_fr HO.out Hf14.out (fun _ _ e => e)), Lib.hid (Fr.refl _ _)⟩
      case round =>
        obtain ⟨k, ys, rfl, hk, hkx, HYL, HOW, HFr⟩ := hrel
        obtain ⟨wo, rfl⟩ : ∃ wo, wo = wr := ⟨wr, rfl⟩
        have wk := wrap_nat k (by omega)
        by_cases hlt : k < M
        · have hltz : (k : Int) < M := by omega
          have hk0 : (0 : Int) ≤ k := by omega
          obtain ⟨g, hA1⟩ : ∃ g, A1 = some ⟨g, 0, none⟩ := by
            rcases own_shape HOW.out with ⟨h1, h2, _⟩ | ⟨g, cap, h1, _⟩
            · omega
            · injection h1 with h1; exact ⟨g, h1⟩
          subst hA1
          have hcc := World.ownsRow.cellAt HOW.out k (by omega)
          have hzz := World.ownsRow.frozenAt HOW.out k
          obtain ⟨x, hx⟩ := HYL.out k hlt
          rw [hx] at hcc
          clear hx
          go_wp2_with fail
          have hst := World.ownsRow.stored HOW.out k (.int .u8 (bits BinOp.xor IntKind.u8 x 255))
          have HST := Lib.hid hst.1
          have HFS := Lib.hid (HFr.out.setCell (p := ⟨g, k, none⟩) (fun _ => rfl) (.int .u8 (bits BinOp.xor IntKind.u8 x 255)))
          clear hst
          go_roundg (M - (k + 1))
          case measure => omega
          case rel => exact ⟨k + 1, _, rfl, by omega, Nat.le_refl _, Lib.hid (fun j hj => by
            rw [List.getElem?_set]
            by_cases e : k = j
            · obtain ⟨z, hz⟩ := HYL.out j hj
              have := (List.getElem?_eq_some_iff.1 hz).1
              rw [if_pos e, if_pos (by omega)]
              exact ⟨_, rfl⟩
            · rw [if_neg e]; exact HYL.out j hj), HST, HFS⟩
        · have hltz : ¬ ((k : Int) < M) := by omega
          obtain rfl : M = k := by omega
          have hyo := HY4.out.fr HFr.out (fun e => by have := HGB.out _ e; have := Hf3.out.size; have := HSZ.out; omega)
          have l33 := load_wholeQ hyo n33 (by rw [HN33.out, HQS.out])
          have hlk := HLK.out wo (.pointer none) ⟨_, rfl⟩ none 0 (like_nil wo) (.inl rfl)
          rw [← HQCd.out] at hlk
          have HLK2 := Lib.hid hlk
          have HFw := Lib.hid (show Fr (fun _ => False) w wo from HF4.out.trans HFr.out (fun i hi e => by have := (HGB.out i e).1; omega))
          clear hyo hlk
          go_wp2_with (first
            | (go_at_call 14; refine HLK2.out.mono ?_; rintro e wl ⟨rfl, fl⟩; have HFl := Lib.hid (HFw.out.trans fl (fun _ _ e => e)); clear fl)
            | (go_at_call 7; refine (HWK.out _ HFl.out).mono ?_; rintro e w11 ⟨rfl, f11⟩; have HF11 := Lib.hid (HFl.out.trans f11 (fun _ _ e => e)); clear f11))
          go_ret
          exact ⟨rfl, HF11.out⟩
end Go.Proofs.YtgbhdjncccmabaaDoor

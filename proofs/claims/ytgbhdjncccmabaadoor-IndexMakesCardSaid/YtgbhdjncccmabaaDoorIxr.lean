/- What is proved: Find by the program, of an index that is there and of none. Conditions: its cells are there; its ids rise; its fan-out tells no more than there are. -/
import Derived.Test.YtgbhdjncccmabaaDoorIxq
namespace Go.Proofs.YtgbhdjncccmabaaDoor
open Go.RowKit
set_option linter.unusedVariables false

theorem IBSF_pos (A : Option Addr) (c m : Nat) (l : List Nat) (x : Nat) (hm : l.length = m) (hl : m ≤ 1000) (hb : ∀ n ∈ l, n < big) (hx : x < big) (hr : ris l) (w : World) (h : Lies w A (flatI l)) :
    Calls Tryd.prog 42 #[.slice A m c, .agg (idC (dgt x)), .func (.func 43) #[] #[]] w fun e w' => e = .returned (.tuple #[.int .i64 (posN l x), .bool (hasN l x)]) ∧ Below w.heap.size w w' := by
  subst hm
  refine (IBSF_any A c l x hl hb hx hr w h).mono ?_
  rintro e w' ⟨p, rfl, hp, bb⟩
  have : posN l x = p := pos_unique l x p hp.le hp.lo (fun h => hp.hi p (Nat.le_refl _) h)
  subst this
  exact ⟨rfl, bb⟩
theorem elemK (w : World) : (sizeOf (Tryd.prog.elem 58)).run Tryd.prog w = .ok 32 w := by kernel_rfl
theorem underKs : Tryd.prog.underlying 58 = some (.slice (Tryd.prog.elem 58)) := by kernel_rfl
theorem slice_keys (A : Option Addr) (n c lo hi : Nat) (h1 : lo ≤ hi) (h2 : hi ≤ c) (w : World) : (Instr.slice 58 (.slice A n c) (some (.int .u32 lo)) (some (.int .u32 hi)) none).run Tryd.prog w = .ok (.slice (tlA A c lo) (hi - lo) (c - lo)) w := by
  have e := run_slice_lh (P := Tryd.prog) w 58 A n c underKs .u32 .u32 (lo : Int) (hi : Int) (by omega) (by omega) (by omega)
  rw [e, elemK]
  simp [sliced, tlA]
/-- The ids between two numbers of the fan-out. -/
def subI (f : Nat → Nat) (ns : List Nat) (x : Nat) : List Nat := (ns.drop (loF f (b0 x))).take (f (b0 x) - loF f (b0 x))
def fndI (n : Nat) (f ks ss ts : Nat → Nat) (x : Nat) : Pl := if hasN (subI f (keyL n ks) x) x = true then atI n ks ss ts (loF f (b0 x) + posN (subI f (keyL n ks) x) x : Nat) else ⟨0, 0, 0⟩
def fhsI (n : Nat) (f ks : Nat → Nat) (x : Nat) : Bool := hasN (subI f (keyL n ks) x) x
theorem ris_cut {ns : List Nat} (h : ris ns) (a m : Nat) : ris ((ns.drop a).take m) := by
  intro i j hij hj
  rw [List.length_take, List.length_drop] at hj
  have e : ∀ k, k < m → k < ns.length - a → gt ((ns.drop a).take m) k = gt ns (a + k) := fun k h1 h2 => by
    rw [gt, gt, List.getD_eq_getElem?_getD, List.getD_eq_getElem?_getD, List.getElem?_take, if_pos h1, List.getElem?_drop]
  rw [e i (by omega) (by omega), e j (by omega) (by omega)]
  exact h _ _ (by omega) (by omega)

set_option maxHeartbeats 1600000 in
set_option maxRecDepth 100000 in
theorem IFind_nil (x : Nat) (w : World) : Calls Tryd.prog 17 #[.pointer none, .agg (idC (dgt x))] w fun e w' => e = .returned (.tuple #[.agg (Pl.cells ⟨0, 0, 0⟩), .bool false]) ∧ Fr (fun _ => False) w w' := by
  obtain ⟨w0, hw0⟩ : ∃ w0, w.alloc (.cells (idC (dgt x)) 24) = w0 := ⟨_, rfl⟩
  obtain ⟨w1, hw1⟩ : ∃ w1, w0.alloc (.cells zeroPl 49) = w1 := ⟨_, rfl⟩
  have hF0 : Fr (fun _ => False) w w0 := by subst hw0; exact (Fr.refl _ w).alloc _
  have hs0 : w0.heap.size = w.heap.size + 1 := by subst hw0; simp
  have HS0 := Lib.hid hs0
  have HZ := Lib.hid (show Whole w1 w0.heap.size 49 zeroPl from by subst hw1; exact Whole.new w0 49 zeroPl)
  have HF1 := Lib.hid (hF0.trans (show Fr (fun _ => False) w0 w1 from by subst hw1; exact (Fr.refl _ w0).alloc _) (fun _ _ e => e))
  have HZP := Lib.hid zpl
  obtain ⟨cx, hcx⟩ : ∃ c, idC (dgt x) = c := ⟨_, rfl⟩
  rw [hcx] at hw0 ⊢
  unfold zeroPl at hw1
  simp [List.replicate] at hw1
  clear hF0 hs0 hcx
  go_enter Tryd.func17, Tryd.ntmps17
  go_wp2_with (refine wpList_store_at rfl 49 _ _ rfl w0.heap.size 0 49 zeroPl zeroPl rfl rfl HZ.out (by decide) size_pl (by rw [← zpl]; exact plC_one _) ?_; intro w3 hw3 hf3; rw [laidAt_all _ _ rfl] at hw3; have HW3 := Lib.hid hw3; have HF3 := Lib.hid (HF1.out.trans hf3 (fun i hi e => by have := HS0.out; omega)); clear hw3 hf3)
  refine bodyPost_ret (v := .tuple #[.agg zeroPl, .bool false]) (results_cell_slot (p := 4) (u := 5) rfl _ _ _ _ _ _ rfl HW3.out Tryd.underlying49 rfl size_pl) rfl ?_
  exact ⟨by rw [HZP.out], HF3.out⟩

set_option maxHeartbeats 3200000 in
set_option maxRecDepth 100000 in
theorem IFind_any (X n : Nat) (A1 A2 A3 : Option Addr) (c1 c2 c3 : Nat) (f ks ss ts : Nat → Nat) (of x : Nat) (hn : n ≤ 1000) (hts : ∀ j, j < n → ts j < 4294967296) (hx : x < big) (hb : ∀ m ∈ keyL n ks, m < big) (hr : ris (keyL n ks)) (h1 : loF f (b0 x) ≤ f (b0 x)) (h2 : f (b0 x) ≤ n) (w : World) (h : IX w X n A1 c1 A2 c2 A3 c3 f ks ss ts of) :
    Calls Tryd.prog 17 #[.pointer (some ⟨X, 0, none⟩), .agg (idC (dgt x))] w fun e w' => e = .returned (.tuple #[.agg (fndI n f ks ss ts x).cells, .bool (fhsI n f ks x)]) ∧ Fr (fun _ => False) w w' := by
  obtain ⟨w0, hw0⟩ : ∃ w0, w.alloc (.cells (idC (dgt x)) 24) = w0 := ⟨_, rfl⟩
  obtain ⟨w1, hw1⟩ : ∃ w1, w0.alloc (.cells zeroPl 49) = w1 := ⟨_, rfl⟩
  have hF0 : Fr (fun _ => False) w w0 := by subst hw0; exact (Fr.refl _ w).alloc _
  have hF01 : Fr (fun _ => False) w0 w1 := by subst hw1; exact (Fr.refl _ w0).alloc _
  have hs0 : w0.heap.size = w.heap.size + 1 := by subst hw0; simp
  have hXI : Whole w1 w.heap.size 24 (idC (dgt x)) := by subst hw0; exact (Whole.new w 24 _).fr hF01 (fun e => e)
  have HS0 := Lib.hid hs0
  have HZ := Lib.hid (show Whole w1 w0.heap.size 49 zeroPl from by subst hw1; exact Whole.new w0 49 zeroPl)
  have hF1 := hF0.trans hF01 (fun _ _ e => e)
  have HF1 := Lib.hid hF1
  have HX := Lib.hid (h.fr hF1)
  have HZP := Lib.hid zpl
  have HXI := Lib.hid hXI
  have HSP := Lib.hid (fun w => Ispan_any f (b0 x) (b0_lt x) w)
  have hsub : subI f (keyL n ks) x = ((keyL n ks).drop (loF f (b0 x))).take (f (b0 x) - loF f (b0 x)) := rfl
  have hsl : (subI f (keyL n ks) x).length = f (b0 x) - loF f (b0 x) := by rw [hsub, List.length_take, List.length_drop, keyL_len]; omega
  have hsb : ∀ m ∈ subI f (keyL n ks) x, m < big := fun m hm => hb m (List.mem_of_mem_drop (List.mem_of_mem_take hm))
  have hsr : ris (subI f (keyL n ks) x) := ris_cut hr _ _
  have hfn : fndI n f ks ss ts x = if hasN (subI f (keyL n ks) x) x = true then atI n ks ss ts (loF f (b0 x) + posN (subI f (keyL n ks) x) x : Nat) else ⟨0, 0, 0⟩ := rfl
  have hfh : fhsI n f ks x = hasN (subI f (keyL n ks) x) x := rfl
  have hple := pos_le (subI f (keyL n ks) x) x
  have hslk : ∀ w, (Instr.slice 58 (.slice A1 n c1) (some (.int .u32 (loF f (b0 x) : Nat))) (some (.int .u32 (f (b0 x) : Nat))) none).run Tryd.prog w = .ok (.slice (tlA A1 c1 (loF f (b0 x))) (f (b0 x) - loF f (b0 x)) (c1 - loF f (b0 x))) w := fun w => slice_keys A1 n c1 _ _ h1 (Nat.le_trans h2 h.c) w
  have hLs : ∀ q : Later w1, Lies q.w' (tlA A1 c1 (loF f (b0 x))) (flatI (subI f (keyL n ks) x)) := fun q => by
    have := ((HX.out.k.fr q.fr (fun _ _ e => e)).tl c1 (loF f (b0 x)) (by rw [keyL_len]; exact HX.out.c)).take ((f (b0 x) - loF f (b0 x)) * 32)
    rwa [← flatI_take] at this
  have HBS := Lib.hid (fun q : Later w1 => IBSF_pos (tlA A1 c1 (loF f (b0 x))) (c1 - loF f (b0 x)) (f (b0 x) - loF f (b0 x)) (subI f (keyL n ks) x) x hsl (by omega) hsb hx hsr q.w' (hLs q))
  have HAT := Lib.hid (fun (k : Int) (w' : World) (h' : IX w' X n A1 c1 A2 c2 A3 c3 f ks ss ts of) => IAt_any X n A1 A2 A3 c1 c2 c3 f ks ss ts of k hn hts w' h')
  obtain ⟨T32, hT32⟩ : ∃ T : TypeId, T = 24 := ⟨_, rfl⟩
  obtain ⟨n32, hn32⟩ : ∃ n : Nat, n = 32 := ⟨_, rfl⟩
  have ag32 : ∀ w, (isAgg T32).run Tryd.prog w = .ok true w := by rw [hT32]; exact fun _ => by kernel_rfl
  have sz32 : ∀ w, (sizeOf T32).run Tryd.prog w = .ok n32 w := by rw [hT32, hn32]; exact fun _ => by kernel_rfl
  obtain ⟨TF, hTF⟩ : ∃ T : TypeId, T = 57 := ⟨_, rfl⟩
  obtain ⟨n256, h256⟩ : ∃ n : Nat, n = 256 := ⟨_, rfl⟩
  have agF : ∀ w, (isAgg TF).run Tryd.prog w = .ok true w := by rw [hTF]; exact fun _ => by kernel_rfl
  have szF : ∀ w, (sizeOf TF).run Tryd.prog w = .ok n256 w := by rw [hTF, h256]; exact fun _ => by kernel_rfl
  have lX : ∀ q : Later w1, (loadCellsFrom ⟨w.heap.size, 0, none⟩ 0 n32 #[]).run Tryd.prog q.w' = .ok (idC (dgt x)) q.w' := fun q => load_later hXI (by rw [idC_size]; exact hn32) (Fr.refl _ w1) q
  have lF : ∀ q : Later w1, (loadCellsFrom ⟨X, 0, none⟩ 0 n256 #[]).run Tryd.prog q.w' = .ok (fanC f) q.w' := fun q => load_fan (HX.out.x.fr q.fr (fun e => e)) n256 h256
  have x1 : ∀ q : Later w1, q.w'.cell? ⟨X, 256, none⟩ = some (.slice A1 n c1) := fun q => by rw [(HX.out.x.fr q.fr (fun e => e)).cell]; exact idxC_mid _ _ _ _ _ 0 (by decide)
  have b1 : ∀ q : Later w1, q.w'.cell? ⟨w.heap.size, 0, none⟩ = some (.int .u8 (b0 x : Nat)) := fun q => by rw [(hXI.fr q.fr (fun e => e)).cell, idC_get _ 0 (by decide)]; rfl
  obtain ⟨P, hP⟩ : ∃ P, posN (subI f (keyL n ks) x) x = P := ⟨_, rfl⟩
  obtain ⟨hs, hhs⟩ : ∃ h, hasN (subI f (keyL n ks) x) x = h := ⟨_, rfl⟩
  rw [hP, hhs] at HBS hfn
  rw [hhs] at hfh
  rw [hP, hsl] at hple
  rw [hfh]
  have HFN := Lib.hid hfn
  obtain ⟨lo, hlo⟩ : ∃ l, loF f (b0 x) = l := ⟨_, rfl⟩
  obtain ⟨hi, hhi⟩ : ∃ l, f (b0 x) = l := ⟨_, rfl⟩
  rw [hlo, hhi] at HSP HBS hslk hple
  rw [hlo] at HFN h1
  rw [hhi] at h1 h2
  obtain ⟨B, hB⟩ : ∃ B, b0 x = B := ⟨_, rfl⟩
  rw [hB] at b1 HSP
  obtain ⟨TA, hTA⟩ : ∃ T, tlA A1 c1 lo = T := ⟨_, rfl⟩
  rw [hTA] at HBS hslk
  obtain ⟨d, hd⟩ : ∃ d, hi - lo = d := ⟨_, rfl⟩
  obtain ⟨c4, hc4⟩ : ∃ d, c1 - lo = d := ⟨_, rfl⟩
  rw [hd, hc4] at HBS hslk
  obtain ⟨FA, hFA⟩ : ∃ F, fanC f = F := ⟨_, rfl⟩
  rw [hFA] at lF HSP
  obtain ⟨cx, hcx⟩ : ∃ c, idC (dgt x) = c := ⟨_, rfl⟩
  rw [hcx] at hw0 lX HBS ⊢
  have hwlo : IntKind.i64.wrap (lo : Int) = lo := by rw [IntKind.wrap_i64]; omega
  have hwlp : IntKind.i64.wrap ((lo : Int) + (P : Int)) = (lo : Int) + (P : Int) := by rw [IntKind.wrap_i64]; omega
  unfold zeroPl at hw1
  simp [List.replicate] at hw1
  clear h hF0 hF01 hs0 hF1 hXI hsub hsl hsb hsr hfn hfh hple hLs hP hhs hlo hhi hB hTA hd hc4 hFA hcx hn32 h256 hn hts hx hb hr
  go_enter Tryd.func17, Tryd.ntmps17
  rw [show Op.load 57 (.tmp 16) = Op.load TF (.tmp 16) by rw [hTF], show Op.load 24 (.tmp 3) = Op.load T32 (.tmp 3) by rw [hT32]]
  clear hTF hT32
  go_upto_region 3 with fail
  refine wp_region_later (w0 := w1) (Fr.refl _ _) (by kernel_rfl) (by kernel_rfl) ?_
  repeat (quiet_step ((go_at_call 41; refine Calls.later_of (HSP.out _))))
  refine wpQuiet_nil ?_
  intro _ hw'
  obtain ⟨q, hw''⟩ := hw'
  subst hw''
  go_upto_region 4 with fail
  refine wp_region_later (w0 := w1) q.fr (by kernel_rfl) (by kernel_rfl) ?_
  repeat (quiet_step ((go_at_call 42; refine Calls.later_of (HBS.out _))))
  refine wpQuiet_nil ?_
  intro _ hw'
  obtain ⟨q2, hw''⟩ := hw'
  subst hw''
  have HX2 := Lib.hid (HX.out.fr q2.fr)
  have HF2 := Lib.hid (HF1.out.trans q2.fr (fun _ _ e => e))
  have HZ2 := Lib.hid (HZ.out.fr q2.fr (fun e => e))
  obtain ⟨w2, hw2⟩ : ∃ w2, q2.w' = w2 := ⟨_, rfl⟩
  rw [hw2] at HX2 HF2 HZ2 ⊢
  clear hw2 lX lF x1 b1
  cases hs
  · have HN : Hid (fndI n f ks ss ts x = ⟨0, 0, 0⟩) := Lib.hid (by rw [HFN.out]; rfl)
    go_wp2_with (refine wpList_store_at rfl 49 _ _ rfl w0.heap.size 0 49 zeroPl zeroPl rfl rfl HZ2.out (by decide) size_pl (by rw [← zpl]; exact plC_one _) ?_; intro w3 hw3 hf3; rw [laidAt_all _ _ rfl] at hw3; have HW3 := Lib.hid hw3; have HF3 := Lib.hid (HF2.out.trans hf3 (fun i hi e => by have := HS0.out; omega)); clear hw3 hf3)
    refine bodyPost_ret (v := .tuple #[.agg zeroPl, .bool false]) (results_cell_slot (p := 4) (u := 5) rfl _ _ _ _ _ _ rfl HW3.out Tryd.underlying49 rfl size_pl) rfl ?_
    exact ⟨by rw [HN.out, HZP.out], HF3.out⟩
  · have HN : Hid (fndI n f ks ss ts x = atI n ks ss ts (lo + P : Nat)) := Lib.hid (by rw [HFN.out]; rfl)
    have HAq := HAT.out ((lo : Int) + (P : Int)) w2 HX2.out
    rw [show ((lo : Int) + (P : Int)) = ((lo + P : Nat) : Int) by omega, ← HN.out] at HAq
    rw [show ((lo + P : Nat) : Int) = (lo : Int) + (P : Int) by omega] at HAq
    have HA2 := Lib.hid HAq
    have HPS := Lib.hid (plC_size (fndI n f ks ss ts x))
    have HPO := Lib.hid (plC_one (fndI n f ks ss ts x))
    obtain ⟨pc, hpc⟩ : ∃ c, (fndI n f ks ss ts x).cells = c := ⟨_, rfl⟩
    rw [hpc] at HA2 HPS HPO
    have HPC := Lib.hid hpc
    clear hpc HAq
    go_wp2_with (first
      | (go_at_call 18; refine HA2.out.mono ?_; rintro e w3 ⟨rfl, f3⟩; have HF3 := Lib.hid (HF2.out.trans f3 (fun _ _ e => e)); have HZ3 := Lib.hid (HZ2.out.fr f3 (fun e => e)); clear f3)
      | (refine wpList_store_at rfl 49 _ _ rfl w0.heap.size 0 49 zeroPl pc rfl rfl HZ3.out (by rw [HPS.out]; decide) (by rw [HPS.out]; exact size_pl) HPO.out ?_; intro w4 hw4 hf4; rw [laidAt_all _ _ (by rw [HPS.out]; rfl)] at hw4; have HW4 := Lib.hid hw4; have HF4 := Lib.hid (HF3.out.trans hf4 (fun i hi e => by have := HS0.out; omega)); clear hw4 hf4))
    refine bodyPost_ret (v := .tuple #[.agg pc, .bool true]) (results_cell_slot (p := 4) (u := 5) rfl _ _ _ _ _ _ rfl HW4.out Tryd.underlying49 rfl (by rw [HPS.out]; exact size_pl)) rfl ?_
    exact ⟨by rw [HPC.out], HF4.out⟩
end Go.Proofs.YtgbhdjncccmabaaDoor

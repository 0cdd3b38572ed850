/- What is proved: the beginning of ids out of a text, by the program and by the document; an id out of a text. Conditions: none. -/
import Derived.Test.YtppddpbacpeadaaDoorIdd
namespace Go.Proofs.YtppddpbacpeadaaDoor.Ids
open Go.RowKit
set_option linter.unusedVariables false

/-- A text's k-th byte. -/
def chr (s : ByteArray) (k : Nat) : UInt8 := s.data.toList.getD k 0
theorem chr_at (s : ByteArray) (k : Nat) (h : k < s.size) : s[k]'h = chr s k := by
  have h' : k < s.data.toList.length := by simpa using h
  rw [chr, List.getD_eq_getElem?_getD, List.getElem?_eq_getElem h']
  rfl
/-- Digits, as far as they have been read. -/
def begD (s : ByteArray) (m k : Nat) : Nat := if k < m then (wv (chr s k)).toNat else 0
theorem begD_lt (s : ByteArray) (m k : Nat) : begD s m k < 16 := by
  unfold begD
  split
  · rcases wv_cases (chr s k) with h | ⟨j, hj, h, _⟩ <;> rw [h]
    · decide
    · rw [Int.toNat_natCast]; exact hj
  · decide
def okTo (s : ByteArray) (m : Nat) : Prop := ∀ k, k < m → wv (chr s k) ≠ -1
def bad (s : ByteArray) : Bool := (List.range s.size).any fun k => wv (chr s k) == -1
theorem bad_of (s : ByteArray) (k : Nat) (hk : k < s.size) (h : wv (chr s k) = -1) : bad s = true := by
  simp only [bad, List.any_eq_true, List.mem_range, beq_iff_eq]
  exact ⟨k, hk, h⟩
theorem not_bad (s : ByteArray) (h : okTo s s.size) : bad s = false := by
  cases hb : bad s
  · rfl
  · simp only [bad, List.any_eq_true, List.mem_range, beq_iff_eq] at hb
    obtain ⟨k, hk, e⟩ := hb
    exact absurd e (h k hk)
/-- The error of a text that begins ids. -/
def begE (s : ByteArray) : Int := if 64 < s.size then 3 else if bad s then 14 else 0
def begN (s : ByteArray) : Nat := if begE s = 0 then s.size else 0
def begA (s : ByteArray) : Nat → Nat := begD s (begN s)
theorem beg_long (s : ByteArray) (h : 64 < s.size) : begE s = 3 ∧ begN s = 0 := by simp [begN, begE, h]
theorem beg_bad (s : ByteArray) (h : ¬ 64 < s.size) (hb : bad s = true) : begE s = 14 ∧ begN s = 0 := by simp [begN, begE, h, hb]
theorem beg_ok (s : ByteArray) (h : ¬ 64 < s.size) (hb : okTo s s.size) : begE s = 0 ∧ begN s = s.size := by simp [begN, begE, h, not_bad s hb]
theorem begD_zero (s : ByteArray) : begD s 0 = fun _ => 0 := by funext k; simp [begD]
theorem byt_zero (i : Nat) : byt (fun _ => 0) i = 0 := rfl

theorem idC_set (D E : Nat → Nat) (i : Nat) (hi : i < 32) (v : Int) (h : ∀ j, j < 32 → j ≠ i → byt D j = byt E j) (hv : v = (byt E i : Nat)) : (idC D).setIfInBounds i (.int .u8 v) = idC E := by
  apply Array.ext_getElem?
  intro j
  rw [Array.getElem?_setIfInBounds]
  split
  · rename_i e
    subst e
    rw [if_pos (by rw [idC_size]; exact hi), idC_get E i hi, hv]
    rfl
  · rcases Nat.lt_or_ge j 32 with hj | hj
    · rw [idC_get D j hj, idC_get E j hj, cellD, cellD, h j hj (by omega)]
    · rw [Array.getElem?_eq_none (by rw [idC_size]; exact hj), Array.getElem?_eq_none (by rw [idC_size]; exact hj)]
theorem pfC_set (D E : Nat → Nat) (N : Int) (i : Nat) (hi : i < 32) (v : Int) (h : ∀ j, j < 32 → j ≠ i → byt D j = byt E j) (hv : v = (byt E i : Nat)) : (pfC D N).setIfInBounds i (.int .u8 v) = pfC E N := by
  rw [pfC, Array.setIfInBounds_append_left (by rw [idC_size]; exact hi), idC_set D E i hi v h hv]; rfl
theorem begD_at (s : ByteArray) (m k : Nat) (h : k < m) : begD s m k = (wv (chr s k)).toNat := by rw [begD, if_pos h]
theorem begD_ge (s : ByteArray) (m k : Nat) (h : m ≤ k) : begD s m k = 0 := by rw [begD, if_neg (by omega)]
theorem begD_other (s : ByteArray) (k j : Nat) (h : j ≠ k) : begD s k j = begD s (k + 1) j := by
  rcases Nat.lt_or_ge j k with h1 | h1
  · rw [begD_at s k j h1, begD_at s (k + 1) j (by omega)]
  · rw [begD_ge s k j h1, begD_ge s (k + 1) j (by omega)]
theorem byt_other (s : ByteArray) (k j : Nat) (h : j ≠ k / 2) : byt (begD s k) j = byt (begD s (k + 1)) j := by
  rw [byt, byt, begD_other s k (2 * j) (by omega), begD_other s k (2 * j + 1) (by omega)]
theorem byt_even (s : ByteArray) (i : Nat) : byt (begD s (2 * i)) i = 0 ∧ byt (begD s (2 * i + 1)) i = 16 * (wv (chr s (2 * i))).toNat := by
  rw [byt, byt, begD_ge s _ _ (Nat.le_refl _), begD_ge s (2 * i) _ (by omega), begD_at s _ (2 * i) (by omega), begD_ge s (2 * i + 1) _ (Nat.le_refl _)]
  exact ⟨rfl, by omega⟩
theorem byt_odd (s : ByteArray) (i : Nat) : byt (begD s (2 * i + 1)) i = 16 * (wv (chr s (2 * i))).toNat ∧ byt (begD s (2 * i + 1 + 1)) i = 16 * (wv (chr s (2 * i))).toNat + (wv (chr s (2 * i + 1))).toNat := by
  rw [byt, byt, begD_at s _ (2 * i) (by omega), begD_ge s (2 * i + 1) _ (Nat.le_refl _), begD_at s _ (2 * i) (by omega), begD_at s _ (2 * i + 1) (by omega)]
  exact ⟨by omega, rfl⟩
theorem index_str (s : ByteArray) (k : Nat) (h : k < s.size) (w : World) : (Instr.index 9 (.string s) (.int .i64 k)).run Tryd.prog w = .ok (.int .u8 ((chr s k).toNat : Nat)) w := by
  rw [run_index_string w 9 _ .i64 k Tryd.underlying9, dif_pos ⟨by omega, by omega⟩]
  congr 3
  rw [← chr_at s k h]
  rfl
theorem GIndexByte_chr (s : ByteArray) (k : Nat) (c q : Int) (hc : c = ((chr s k).toNat : Nat)) (hq : wv (chr s k) = q) (w : World) :
    Calls Tryd.prog 87 #[.string { data := #[48, 49, 50, 51, 52, 53, 54, 55, 56, 57, 97, 98, 99, 100, 101, 102] }, .int .u8 c] w fun e w' => e = .returned (.int .i64 q) ∧ w = w' := by
  have h := GIndexByte_any { data := #[48, 49, 50, 51, 52, 53, 54, 55, 56, 57, 97, 98, 99, 100, 101, 102] } c w
  have e : Lib.indexByte (ByteArray.mk #[48, 49, 50, 51, 52, 53, 54, 55, 56, 57, 97, 98, 99, 100, 101, 102]).data.toList c.toNat.toUInt8 = q := by
    rw [← hq, hc, Int.toNat_natCast]
    show Lib.indexByte figs (UInt8.ofNat (chr s k).toNat) = _
    rw [UInt8.ofNat_toNat]
    rfl
  rwa [e] at h
def zero33 : Array Value := (List.replicate 32 (Value.int .u8 0) ++ [Value.int .i64 0]).toArray
theorem pf_zero : pfC (fun _ => 0) 0 = zero33 := rfl
theorem zero33_size : zero33.size = 33 := rfl
theorem zero33_one : zero33.all (·.oneCell') = true := by rw [← pf_zero]; exact pfC_one _ _

/-- What stands at the head of a round of Begin. -/
def BgRel (w : World) (g : Nat) (s : ByteArray) (k : Nat) (wr : World) : Prop := okTo s k ∧ Whole wr g 106 (pfC (begD s k) s.size) ∧ Whole wr w.heap.size 106 zero33 ∧ Fr (fun _ => False) w wr

theorem BgRel.put {w : World} {g : Nat} {s : ByteArray} {k : Nat} {wr : World} (h : BgRel w g s k wr) (hg : w.heap.size < g) (i : Nat) (hi : i = k / 2) (hk : k < 64) (hq : wv (chr s k) ≠ -1) (v : Int) (hv : v = (byt (begD s (k + 1)) i : Nat)) : BgRel w g s (k + 1) (wr.setCell ⟨g, i, none⟩ (.int .u8 v)).drew := by
  refine ⟨fun j hj => (by omega : j < k ∨ j = k).elim (h.1 j) (fun e => e ▸ hq), ?_, ?_, ((h.2.2.2.setCell (fun e => absurd e (by show ¬ g < w.heap.size; omega)) _)).drew⟩
  · have := h.2.1.set i (.int .u8 v)
    rw [pfC_set _ (begD s (k + 1)) _ i (by omega) v (fun j _ hj => byt_other s k j (by omega)) hv] at this
    exact this.fr ((Fr.refl (fun _ => False) _).drew) (fun e => e)
  · exact (h.2.2.1.fr ((Fr.refl (fun j => j = g) wr).setCell (p := ⟨g, i, none⟩) (fun _ => rfl) _) (show ¬ w.heap.size = g by omega)).fr ((Fr.refl (fun _ => False) _).drew) (fun e => e)
theorem or_even (q : Int) (q0 : 0 ≤ q) (q1 : q < 16) : bits .or .u8 0 (q * 16) = 16 * q := by
  rw [u8_or 0 (q * 16) (by omega) (by omega) (by omega) (by omega)]
  simp
  omega
theorem or_odd (d q : Nat) (hd : d < 16) (hq : q < 16) : bits .or .u8 ((16 * d : Nat) : Int) (q : Int) = ((16 * d + q : Nat) : Int) := by
  rw [u8_or _ _ (by omega) (by omega) (by omega) (by omega), Int.toNat_natCast, Int.toNat_natCast]
  congr 1
  have h : ∀ d, d < 16 → ∀ q, q < 16 → (16 * d) ||| q = 16 * d + q := by decide
  exact h d hd q hq

set_option maxHeartbeats 1600000 in
set_option maxRecDepth 100000 in
theorem OBegin_any (s : ByteArray) (hs : s.size ≤ 9223372036854775807) (w : World) : Calls Tryd.prog 74 #[.string s] w fun e w' => e = .returned (.tuple #[.agg (pfC (begA s) (begN s)), .int .i64 (begE s)]) ∧ Below w.heap.size w w' := by
  obtain ⟨w1, hw1⟩ : ∃ w1, w.alloc (.cells zero33 106) = w1 := ⟨_, rfl⟩
  have hF : Fr (fun _ => False) w w1 := by subst hw1; exact (Fr.refl _ w).alloc _
  have hZ : Whole w1 w.heap.size 106 zero33 := by subst hw1; exact Whole.new w 106 zero33
  have hs1 : w1.heap.size = w.heap.size + 1 := by subst hw1; simp
  unfold zero33 at hw1
  simp [List.replicate] at hw1
  have HF := Lib.hid hF
  have HZ := Lib.hid hZ
  have HS1 := Lib.hid hs1
  clear hF hZ hs1
  go_enter Tryd.func74, Tryd.ntmps74
  by_cases hlong : 64 < s.size
  · go_wp2_with (refine wpList_store_at rfl 106 _ _ rfl w.heap.size 0 106 _ zero33 rfl rfl HZ.out (by decide) size33 zero33_one ?_
                 intro w6 hw6 hf6)
    rw [laidAt_all _ _ rfl] at hw6
    refine bodyPost_ret (v := .tuple #[.agg zero33, .int .i64 3]) (results_cell_slot (p := 2) (u := 3) rfl _ _ _ _ _ _ rfl hw6 Tryd.underlying106 rfl size33) rfl ?_
    refine ⟨?_, (HF.out.trans hf6 (fun i hi e => by omega)).below (fun _ _ e => e)⟩
    obtain ⟨e1, e2⟩ := beg_long s hlong
    rw [begA, e1, e2, begD_zero]
    rfl
  · go_wp2_with (refine wpList_store_at rfl 106 _ _ rfl w1.heap.size 0 106 _ (pfC (begD s 0) s.size) rfl (by rw [begD_zero]; rfl) (Whole.new w1 106 zero33) (by rw [pfC_size]; decide) (by rw [pfC_size]; exact size33) (pfC_one _ _) ?_
                 intro w2 hw2 hf2)
    rw [laidAt_all _ _ (by rw [pfC_size]; rfl)] at hw2
    have h0 : BgRel w w1.heap.size s 0 w2 := ⟨fun k hk => absurd hk (Nat.not_lt_zero _), hw2, HZ.out.fr (((Fr.refl (fun _ => False) w1).alloc _).trans hf2 (fun i hi e => by omega)) (fun e => e), (HF.out.alloc _).trans hf2 (fun i hi e => by have := HS1.out; omega)⟩
    have H0 := Lib.hid h0
    clear hw1 h0 hw2 hf2
    go_loopw [16] (fun i wr => ∃ k : Nat, k ≤ s.size ∧ i = .int .i64 k ∧ BgRel w w1.heap.size s k wr) (fun i _ => s.size - (intOf i).toNat)
    case atStart => exact ⟨0, by omega, rfl, H0.out⟩
    case round =>
      obtain ⟨k, hk, rfl, hr⟩ := hrel
      by_cases hlt : k < s.size
      · have hix := fun w => index_str s k hlt w
        obtain ⟨c, hc⟩ : ∃ c : Int, c = ((chr s k).toNat : Nat) := ⟨_, rfl⟩
        rw [← hc] at hix
        obtain ⟨q, hq⟩ : ∃ q : Int, wv (chr s k) = q := ⟨_, rfl⟩
        have HIB := Lib.hid (fun w => GIndexByte_chr s k c q hc hq w)
        have HQ := Lib.hid hq
        have HR := Lib.hid hr
        by_cases hneg : q = -1
        · subst hneg
          clear hr hc hq
          go_wp2_with (first
            | (go_at_call 87; refine (HIB.out _).mono ?_; rintro e w3 ⟨rfl, rfl⟩)
            | (refine wpList_store_at rfl 106 _ _ rfl w.heap.size 0 106 _ zero33 rfl rfl HR.out.2.2.1 (by decide) size33 zero33_one ?_
               intro w6 hw6 hf6))
          rw [laidAt_all _ _ rfl] at hw6
          refine bodyPost_ret (v := .tuple #[.agg zero33, .int .i64 14]) (results_cell_slot (p := 2) (u := 3) rfl _ _ _ _ _ _ rfl hw6 Tryd.underlying106 rfl size33) rfl ?_
          refine ⟨?_, (HR.out.2.2.2.trans hf6 (fun i hi e => by omega)).below (fun _ _ e => e)⟩
          obtain ⟨e1, e2⟩ := beg_bad s hlong (bad_of s k hlt HQ.out)
          rw [begA, e1, e2, begD_zero]
          rfl
        · have hqq : 0 ≤ q ∧ q < 16 := by
            rcases wv_cases (chr s k) with h | ⟨j, hj, h, _⟩
            · omega
            · omega
          obtain ⟨q0, q1⟩ := hqq
          obtain ⟨i, hi⟩ : ∃ i, k = 2 * i ∨ k = 2 * i + 1 := ⟨k / 2, by omega⟩
          have hi32 : i < 32 := by omega
          obtain ⟨x, hx⟩ : ∃ x : Int, x = (byt (begD s k) i : Nat) := ⟨_, rfl⟩
          have c1 : wr.cell? ⟨w1.heap.size, i, none⟩ = some (.int .u8 x) := by rw [hr.2.1.cell, pfC_get _ _ i hi32, hx]; rfl
          have f1 := hr.2.1.frozen i
          have hx1 := byt_lt _ (begD_lt s k) i
          have x0 : 0 ≤ x := by omega
          have x1 : x < 256 := by omega
          obtain ⟨K, hK⟩ : ∃ K : Int, (k : Int) = K := ⟨_, rfl⟩
          have hkd : K.tdiv 2 = (i : Int) := by rw [Int.tdiv_eq_ediv_of_nonneg (by omega)]; omega
          have hK64 : K < 64 := by omega
          have hKs : K < s.size := by omega
          have hK0 : 0 ≤ K := by omega
          have HX := Lib.hid hx
          have HI := Lib.hid hi
          have HK := Lib.hid hK
          rw [hK] at hix ⊢
          have wq : IntKind.u8.wrap q = q := by rw [IntKind.wrap_u8]; omega
          rcases hi with hi | hi
          · have hkm : K.tmod 2 = 0 := by rw [Int.tmod_eq_emod_of_nonneg (by omega)]; omega
            have HK2 := Lib.hid hi
            clear hr hc hq hx hK hi hx1
            go_wp2_with (go_at_call 87; refine (HIB.out _).mono ?_; rintro e w3 ⟨rfl, rfl⟩)
            go_region
            all_goals go_wp2_with fail
            go_roundw
            case rel =>
              refine ⟨k + 1, by omega, by rw [← HK.out]; go_num, HR.out.put (by rw [HS1.out]; omega) i (by have := HI.out; omega) (by omega) (by rw [HQ.out]; exact hneg) _ ?_⟩
              have e1 := HX.out
              have hk2 := HK2.out
              subst hk2
              rw [(byt_even s i).1] at e1
              rw [e1, (byt_even s i).2, HQ.out]
              rw [show ((0 : Nat) : Int) = 0 from rfl, or_even q q0 q1]
              omega
            case measure => have := HK.out; simp [intOf]; omega
          · have hkm : K.tmod 2 = 1 := by rw [Int.tmod_eq_emod_of_nonneg (by omega)]; omega
            have HK2 := Lib.hid hi
            clear hr hc hq hx hK hi hx1
            go_wp2_with (go_at_call 87; refine (HIB.out _).mono ?_; rintro e w3 ⟨rfl, rfl⟩)
            go_region
            all_goals go_wp2_with fail
            go_roundw
            case rel =>
              refine ⟨k + 1, by omega, by rw [← HK.out]; go_num, HR.out.put (by rw [HS1.out]; omega) i (by have := HI.out; omega) (by omega) (by rw [HQ.out]; exact hneg) _ ?_⟩
              have e1 := HX.out
              have hk2 := HK2.out
              subst hk2
              rw [(byt_odd s i).1] at e1
              obtain ⟨d, hd⟩ : ∃ d, (wv (chr s (2 * i))).toNat = d := ⟨_, rfl⟩
              have hd16 : d < 16 := by
                have := begD_lt s (2 * i + 1) (2 * i)
                rw [begD_at s _ _ (by omega), hd] at this
                exact this
              rw [hd] at e1
              rw [e1, (byt_odd s i).2, HQ.out, hd]
              obtain ⟨qn, rfl⟩ : ∃ qn : Nat, q = qn := ⟨q.toNat, by omega⟩
              rw [Int.toNat_natCast]
              exact or_odd d qn hd16 (by omega)
            case measure => have := HK.out; simp [intOf]; omega
      · obtain rfl : k = s.size := by omega
        have HR := Lib.hid hr
        clear hr
        go_wp2_with (first
          | (refine wpList_load_row rfl 106 _ rfl _ rfl 106 _ _ _ HR.out.2.1 Tryd.underlying106 rfl (by rw [pfC_size]; exact size33) ?_)
          | (refine wpList_store_at rfl 106 _ _ rfl w.heap.size 0 106 _ (pfC (begD s s.size) s.size) rfl rfl HR.out.2.2.1 (by rw [pfC_size]; decide) (by rw [pfC_size]; exact size33) (pfC_one _ _) ?_
             intro w6 hw6 hf6))
        rw [laidAt_all _ _ (by rw [pfC_size]; rfl)] at hw6
        refine bodyPost_ret (v := .tuple #[.agg (pfC (begD s s.size) s.size), .int .i64 0]) (results_cell_slot (p := 2) (u := 3) rfl _ _ _ _ _ _ rfl hw6 Tryd.underlying106 rfl (by rw [pfC_size]; exact size33)) rfl ?_
        refine ⟨?_, (HR.out.2.2.2.trans hf6 (fun i hi e => by omega)).below (fun _ _ e => e)⟩
        obtain ⟨e1, e2⟩ := beg_ok s hlong HR.out.1
        rw [begA, e1, e2]

/-- A call that answers what a cell's block holds, and two slots. -/
theorem results_cell_slots {P : Program} {fn : Func} {p u v : Tmp} {ty : TypeId} (h : fn.results = #[.cell p ty, .tmp u, .tmp v]) (tmps : Array Value) (w : World) (g : Nat) (t : TypeId) (cs : Array Value) (d : TypeDesc)
    (hp : tmps.getD p undef = .pointer (some ⟨g, 0, none⟩)) (hg : Whole w g t cs)
    (hu : P.underlying ty = some d) (hd : (match d with | .struct _ | .array _ _ => true | _ => false) = true) (hi : (P.info? ty).map (·.size) = some cs.size) :
    (results fn tmps).run P w = .ok (.tuple #[.agg cs, tmps.getD u undef, tmps.getD v undef]) w := by
  have hp' : tmps[p]?.getD undef = .pointer (some ⟨g, 0, none⟩) := by simpa using hp
  have hg' : w.heap[g]? = some (.cells cs t (0, 0)) := hg
  simp [results, h, hp', asAddr, run_loadVar_row w g t ty cs (0, 0) d hg' hu hd hi]
def zero32 : Array Value := (List.replicate 32 (Value.int .u8 0)).toArray
theorem id_zero : idC (fun _ => 0) = zero32 := rfl
theorem zero32_one : zero32.all (·.oneCell') = true := by rw [← id_zero]; exact idC_one _
/-- What stands at the head of a round of the document's Begin. -/
def QbRel (w : World) (g : Nat) (s : ByteArray) (k : Nat) (wr : World) : Prop := okTo s k ∧ Whole wr g 23 (idC (begD s k)) ∧ Whole wr w.heap.size 23 zero32 ∧ Fr (fun _ => False) w wr
theorem QbRel.put {w : World} {g : Nat} {s : ByteArray} {k : Nat} {wr : World} (h : QbRel w g s k wr) (hg : w.heap.size < g) (i : Nat) (hi : i = k / 2) (hk : k < 64) (hq : wv (chr s k) ≠ -1) (v : Int) (hv : v = (byt (begD s (k + 1)) i : Nat)) : QbRel w g s (k + 1) (wr.setCell ⟨g, i, none⟩ (.int .u8 v)) := by
  refine ⟨fun j hj => (by omega : j < k ∨ j = k).elim (h.1 j) (fun e => e ▸ hq), ?_, ?_, (h.2.2.2.setCell (fun e => absurd e (by show ¬ g < w.heap.size; omega)) _)⟩
  · have := h.2.1.set i (.int .u8 v)
    rw [idC_set _ (begD s (k + 1)) i (by omega) v (fun j _ hj => byt_other s k j (by omega)) hv] at this
    exact this
  · exact (h.2.2.1.fr ((Fr.refl (fun j => j = g) wr).setCell (p := ⟨g, i, none⟩) (fun _ => rfl) _) (show ¬ w.heap.size = g by omega))
theorem Qworth_chr (s : ByteArray) (k : Nat) (c q : Int) (hc : c = ((chr s k).toNat : Nat)) (hq : wv (chr s k) = q) (w : World) : Calls Tryd.prog 68 #[.int .u8 c] w fun e w' => e = .returned (.int .i64 q) ∧ w = w' := by
  have h := Qworth_any (chr s k) c hc w
  rwa [hq] at h

set_option maxHeartbeats 1600000 in
set_option maxRecDepth 100000 in
theorem QBegin_any (s : ByteArray) (hs : s.size ≤ 9223372036854775807) (w : World) : Calls Tryd.prog 58 #[.string s] w fun e w' => e = .returned (.tuple #[.agg (idC (begA s)), .int .i64 (begN s), .int .i64 (begE s)]) ∧ Below w.heap.size w w' := by
  obtain ⟨w1, hw1⟩ : ∃ w1, w.alloc (.cells zero32 23) = w1 := ⟨_, rfl⟩
  obtain ⟨w2, hw2⟩ : ∃ w2, w1.alloc (.cells zero32 23) = w2 := ⟨_, rfl⟩
  have hF : Fr (fun _ => False) w w1 := by subst hw1; exact (Fr.refl _ w).alloc _
  have hZ : Whole w1 w.heap.size 23 zero32 := by subst hw1; exact Whole.new w 23 zero32
  have hs1 : w1.heap.size = w.heap.size + 1 := by subst hw1; simp
  have hF2 : Fr (fun _ => False) w1 w2 := by subst hw2; exact (Fr.refl _ w1).alloc _
  have h0 : QbRel w w1.heap.size s 0 w2 := ⟨fun k hk => absurd hk (Nat.not_lt_zero _), by subst hw2; rw [begD_zero, id_zero]; exact Whole.new w1 23 zero32, hZ.fr hF2 (fun e => e), hF.trans hF2 (fun i hi e => e)⟩
  unfold zero32 at hw1 hw2
  simp [List.replicate] at hw1 hw2
  have H0 := Lib.hid h0
  have HS1 := Lib.hid hs1
  clear hF hF2 hZ hs1 h0
  go_enter Tryd.func58, Tryd.ntmps58
  by_cases hlong : 64 < s.size
  · go_wp2_with (refine wpList_store_at rfl 23 _ _ rfl w.heap.size 0 23 _ zero32 rfl rfl H0.out.2.2.1 (by decide) size32 zero32_one ?_
                 intro w6 hw6 hf6)
    rw [laidAt_all _ _ rfl] at hw6
    refine bodyPost_ret (v := .tuple #[.agg zero32, .int .i64 0, .int .i64 3]) (results_cell_slots (p := 2) (u := 3) (v := 4) rfl _ _ _ _ _ _ rfl hw6 Tryd.underlying23 rfl size32) rfl ?_
    refine ⟨?_, (H0.out.2.2.2.trans hf6 (fun i hi e => by omega)).below (fun _ _ e => e)⟩
    obtain ⟨e1, e2⟩ := beg_long s hlong
    rw [begA, e1, e2, begD_zero]
    rfl
  · go_wp2_with fail
    clear hw1 hw2
    go_loopw [6] (fun i wr => ∃ k : Nat, k ≤ s.size ∧ i = .int .i64 k ∧ QbRel w w1.heap.size s k wr) (fun i _ => s.size - (intOf i).toNat)
    case atStart => exact ⟨0, by omega, rfl, H0.out⟩
    case round =>
      obtain ⟨k, hk, rfl, hr⟩ := hrel
      by_cases hlt : k < s.size
      · have hix := fun w => index_str s k hlt w
        obtain ⟨c, hc⟩ : ∃ c : Int, c = ((chr s k).toNat : Nat) := ⟨_, rfl⟩
        rw [← hc] at hix
        obtain ⟨q, hq⟩ : ∃ q : Int, wv (chr s k) = q := ⟨_, rfl⟩
        have HIB := Lib.hid (fun w => Qworth_chr s k c q hc hq w)
        have HQ := Lib.hid hq
        have HR := Lib.hid hr
        by_cases hneg : q = -1
        · subst hneg
          clear hr hc hq
          go_wp2_with (first
            | (go_at_call 68; refine (HIB.out _).mono ?_; rintro e w3 ⟨rfl, rfl⟩)
            | (refine wpList_store_at rfl 23 _ _ rfl w.heap.size 0 23 _ zero32 rfl rfl HR.out.2.2.1 (by decide) size32 zero32_one ?_
               intro w6 hw6 hf6))
          rw [laidAt_all _ _ rfl] at hw6
          refine bodyPost_ret (v := .tuple #[.agg zero32, .int .i64 0, .int .i64 14]) (results_cell_slots (p := 2) (u := 3) (v := 4) rfl _ _ _ _ _ _ rfl hw6 Tryd.underlying23 rfl size32) rfl ?_
          refine ⟨?_, (HR.out.2.2.2.trans hf6 (fun i hi e => by omega)).below (fun _ _ e => e)⟩
          obtain ⟨e1, e2⟩ := beg_bad s hlong (bad_of s k hlt HQ.out)
          rw [begA, e1, e2, begD_zero]
          rfl
        · have hqq : 0 ≤ q ∧ q < 16 := by
            rcases wv_cases (chr s k) with h | ⟨j, hj, h, _⟩
            · omega
            · omega
          obtain ⟨q0, q1⟩ := hqq
          obtain ⟨i, hi⟩ : ∃ i, k = 2 * i ∨ k = 2 * i + 1 := ⟨k / 2, by omega⟩
          have hi32 : i < 32 := by omega
          obtain ⟨x, hx⟩ : ∃ x : Int, x = (byt (begD s k) i : Nat) := ⟨_, rfl⟩
          have c1 : wr.cell? ⟨w1.heap.size, i, none⟩ = some (.int .u8 x) := by rw [hr.2.1.cell, idC_get _ i hi32, hx]; rfl
          have f1 := hr.2.1.frozen i
          have hx1 := byt_lt _ (begD_lt s k) i
          have x0 : 0 ≤ x := by omega
          have x1 : x < 256 := by omega
          obtain ⟨K, hK⟩ : ∃ K : Int, (k : Int) = K := ⟨_, rfl⟩
          have hkd : K.tdiv 2 = (i : Int) := by rw [Int.tdiv_eq_ediv_of_nonneg (by omega)]; omega
          have hK64 : K < 64 := by omega
          have hKs : K < s.size := by omega
          have hK0 : 0 ≤ K := by omega
          have HX := Lib.hid hx
          have HI := Lib.hid hi
          have HK := Lib.hid hK
          rw [hK] at hix ⊢
          rcases hi with hi | hi
          · have hkm : K.tmod 2 = 0 := by rw [Int.tmod_eq_emod_of_nonneg (by omega)]; omega
            have HK2 := Lib.hid hi
            have hxz : x = 0 := by rw [hx, hi, (byt_even s i).1]; rfl
            clear hr hc hq hx hK hi hx1
            go_wp2_with (go_at_call 68; refine (HIB.out _).mono ?_; rintro e w3 ⟨rfl, rfl⟩)
            go_roundw
            case rel =>
              refine ⟨k + 1, by omega, by rw [← HK.out]; go_num, HR.out.put (by rw [HS1.out]; omega) i (by have := HI.out; omega) (by omega) (by rw [HQ.out]; exact hneg) _ ?_⟩
              have hk2 := HK2.out
              subst hk2
              rw [(byt_even s i).2, HQ.out]
              first | omega | (rw [IntKind.wrap_u8]; omega)
            case measure => have := HK.out; simp [intOf]; omega
          · have hkm : K.tmod 2 = 1 := by rw [Int.tmod_eq_emod_of_nonneg (by omega)]; omega
            have HK2 := Lib.hid hi
            have hx16 : Hid (x + q < 256 ∧ x + q = (byt (begD s (k + 1)) i : Nat)) := Lib.hid (by
              have d := begD_lt s (2 * i + 1) (2 * i)
              rw [begD_at s _ _ (by omega)] at d
              rw [hx, hi, (byt_odd s i).1, (byt_odd s i).2]
              rw [hi] at hq
              rw [hq]
              omega)
            have hxq := hx16.out.1
            clear hr hc hq hx hK hi hx1
            go_wp2_with (go_at_call 68; refine (HIB.out _).mono ?_; rintro e w3 ⟨rfl, rfl⟩)
            go_roundw
            case rel =>
              refine ⟨k + 1, by omega, by rw [← HK.out]; go_num, HR.out.put (by rw [HS1.out]; omega) i (by have := HI.out; omega) (by omega) (by rw [HQ.out]; exact hneg) _ ?_⟩
              rw [← hx16.out.2]
            case measure => have := HK.out; simp [intOf]; omega
      · obtain rfl : k = s.size := by omega
        have HR := Lib.hid hr
        clear hr
        go_wp2_with (first
          | (refine wpList_load_row rfl 23 _ rfl _ rfl 23 _ _ _ HR.out.2.1 Tryd.underlying23 rfl (by rw [idC_size]; exact size32) ?_)
          | (refine wpList_store_at rfl 23 _ _ rfl w.heap.size 0 23 _ (idC (begD s s.size)) rfl rfl HR.out.2.2.1 (by rw [idC_size]; decide) (by rw [idC_size]; exact size32) (idC_one _) ?_
             intro w6 hw6 hf6))
        rw [laidAt_all _ _ (by rw [idC_size]; exact (rfl : zero32.size = 32))] at hw6
        refine bodyPost_ret (v := .tuple #[.agg (idC (begD s s.size)), .int .i64 s.size, .int .i64 0]) (results_cell_slots (p := 2) (u := 3) (v := 4) rfl _ _ _ _ _ _ rfl hw6 Tryd.underlying23 rfl (by rw [idC_size]; exact size32)) rfl ?_
        refine ⟨?_, (HR.out.2.2.2.trans hf6 (fun i hi e => by omega)).below (fun _ _ e => e)⟩
        obtain ⟨e1, e2⟩ := beg_ok s hlong HR.out.1
        rw [begA, e1, e2]

/-! Read. -/
def rdE (s : ByteArray) : Int := if s.size = 64 then begE s else 3
def rdA (s : ByteArray) : Nat → Nat := if s.size = 64 then begA s else fun _ => 0
theorem pfC_range {w : World} {g : Nat} {D : Nat → Nat} {N : Int} (h : Whole w g 106 (pfC D N)) : w.rangeAt g 0 (idC D).toList := by
  have := h.range 0 32
  rw [List.drop_zero, pfC_ids] at this
  exact this

set_option maxHeartbeats 1600000 in
set_option maxRecDepth 100000 in
theorem ORead_any (s : ByteArray) (hs : s.size ≤ 9223372036854775807) (w : World) : Calls Tryd.prog 63 #[.string s] w fun e w' => e = .returned (.tuple #[.agg (idC (rdA s)), .int .i64 (rdE s)]) ∧ Below w.heap.size w w' := by
  obtain ⟨w1, hw1⟩ : ∃ w1, w.alloc (.cells zero32 23) = w1 := ⟨_, rfl⟩
  have hF : Fr (fun _ => False) w w1 := by subst hw1; exact (Fr.refl _ w).alloc _
  have hZ : Whole w1 w.heap.size 23 zero32 := by subst hw1; exact Whole.new w 23 zero32
  unfold zero32 at hw1
  simp [List.replicate] at hw1
  have HF := Lib.hid hF
  have HZ := Lib.hid hZ
  clear hF hZ
  go_enter Tryd.func63, Tryd.ntmps63
  by_cases hn : s.size = 64
  · have HB := Lib.hid (fun w => OBegin_any s hs w)
    have hA : rdA s = begA s := by rw [rdA, if_pos hn]
    have hE : rdE s = begE s := by rw [rdE, if_pos hn]
    rw [hA, hE]
    obtain ⟨P, hP⟩ : ∃ P, pfC (begA s) (begN s) = P := ⟨_, rfl⟩
    obtain ⟨E, hE'⟩ : ∃ E, begE s = E := ⟨_, rfl⟩
    rw [hP, hE'] at HB
    rw [hE']
    have hPs : P.size = 33 := by rw [← hP]; exact pfC_size _ _
    have hPo : P.all (·.oneCell') = true := by rw [← hP]; exact pfC_one _ _
    have HP := Lib.hid hP
    clear hA hE hP hE'
    go_wp2_with (first
      | (go_at_call 74; refine (HB.out _).mono ?_; rintro e w2 ⟨rfl, b2⟩)
      | (refine wpList_load_mid rfl 23 _ rfl w2.heap.size 0 rfl _ _ (pfC_range (by rw [HP.out]; exact hw3)) Tryd.underlying23 rfl (by rw [Array.length_toList, idC_size]; exact size32) ?_)
      | (have _ := M1
         refine wpList_store_at rfl 23 _ _ rfl w.heap.size 0 23 _ (idC (begA s)) rfl rfl (HZ.out.fr F3 (fun e => e)) (by rw [idC_size]; decide) (by rw [idC_size]; exact size32) (idC_one _) ?_
         intro w6 hw6 hf6)
      | (refine wpList_store_at rfl 106 _ _ rfl w2.heap.size 0 106 _ P rfl rfl (Whole.new w2 106 zero33) (by rw [hPs]; decide) (by rw [hPs]; exact size33) hPo ?_
         intro w3 hw3 hf3
         rw [laidAt_all _ _ (by rw [hPs]; rfl)] at hw3
         have M1 := True.intro
         have F3 : Fr (fun _ => False) w1 w3 := (((Fr.refl (fun _ => False) w1).then_below b2).alloc _).trans hf3 (fun i hi e => by have := b2.size; omega)))
    rw [laidAt_all _ _ (by rw [idC_size]; exact (rfl : zero32.size = 32))] at hw6
    refine bodyPost_ret (v := .tuple #[.agg (idC (begA s)), .int .i64 E]) (results_cell_slot (p := 2) (u := 3) rfl _ _ _ _ _ _ rfl hw6 Tryd.underlying23 rfl (by rw [idC_size]; exact size32)) rfl ?_
    exact ⟨rfl, ((HF.out.trans F3 (fun i hi e => e)).trans hf6 (fun i hi e => by omega)).below (fun _ _ e => e)⟩
  · have hne : ((s.size : Int) != 64) = true := by
      have : (s.size : Int) ≠ 64 := by omega
      simpa using this
    go_wp2_with (refine wpList_store_at rfl 23 _ _ rfl w.heap.size 0 23 _ zero32 rfl rfl HZ.out (by decide) size32 zero32_one ?_
                 intro w6 hw6 hf6)
    rw [laidAt_all _ _ rfl] at hw6
    refine bodyPost_ret (v := .tuple #[.agg zero32, .int .i64 3]) (results_cell_slot (p := 2) (u := 3) rfl _ _ _ _ _ _ rfl hw6 Tryd.underlying23 rfl size32) rfl ?_
    refine ⟨?_, (HF.out.trans hf6 (fun i hi e => by omega)).below (fun _ _ e => e)⟩
    rw [rdA, rdE, if_neg hn, if_neg hn]
    rfl

set_option maxHeartbeats 1600000 in
set_option maxRecDepth 100000 in
theorem QRead_any (s : ByteArray) (hs : s.size ≤ 9223372036854775807) (w : World) : Calls Tryd.prog 41 #[.string s] w fun e w' => e = .returned (.tuple #[.agg (idC (rdA s)), .int .i64 (rdE s)]) ∧ Below w.heap.size w w' := by
  obtain ⟨w1, hw1⟩ : ∃ w1, w.alloc (.cells zero32 23) = w1 := ⟨_, rfl⟩
  have hF : Fr (fun _ => False) w w1 := by subst hw1; exact (Fr.refl _ w).alloc _
  have hZ : Whole w1 w.heap.size 23 zero32 := by subst hw1; exact Whole.new w 23 zero32
  unfold zero32 at hw1
  simp [List.replicate] at hw1
  have HF := Lib.hid hF
  have HZ := Lib.hid hZ
  clear hF hZ
  go_enter Tryd.func41, Tryd.ntmps41
  by_cases hn : s.size = 64
  · have HB := Lib.hid (fun w => QBegin_any s hs w)
    have hA : rdA s = begA s := by rw [rdA, if_pos hn]
    have hE : rdE s = begE s := by rw [rdE, if_pos hn]
    rw [hA, hE]
    obtain ⟨P, hP⟩ : ∃ P, idC (begA s) = P := ⟨_, rfl⟩
    obtain ⟨E, hE'⟩ : ∃ E, begE s = E := ⟨_, rfl⟩
    obtain ⟨M, hM⟩ : ∃ M : Int, (begN s : Int) = M := ⟨_, rfl⟩
    rw [hP, hE', hM] at HB
    rw [hE', hP]
    have hPs : P.size = 32 := by rw [← hP]; exact idC_size _
    have hPo : P.all (·.oneCell') = true := by rw [← hP]; exact idC_one _
    clear hA hE hP hE' hM
    go_wp2_with (first
      | (go_at_call 58; refine (HB.out _).mono ?_; rintro e w2 ⟨rfl, b2⟩)
      | (refine wpList_load_row rfl 23 _ rfl _ rfl 23 _ _ _ hw3 Tryd.underlying23 rfl (by rw [hPs]; exact size32) ?_)
      | (have _ := M1
         refine wpList_store_at rfl 23 _ _ rfl w.heap.size 0 23 _ P rfl rfl (HZ.out.fr F3 (fun e => e)) (by rw [hPs]; decide) (by rw [hPs]; exact size32) hPo ?_
         intro w6 hw6 hf6)
      | (refine wpList_store_at rfl 23 _ _ rfl w2.heap.size 0 23 _ P rfl rfl (Whole.new w2 23 zero32) (by rw [hPs]; decide) (by rw [hPs]; exact size32) hPo ?_
         intro w3 hw3 hf3
         rw [laidAt_all _ _ (by rw [hPs]; rfl)] at hw3
         have M1 := True.intro
         have F3 : Fr (fun _ => False) w1 w3 := (((Fr.refl (fun _ => False) w1).then_below b2).alloc _).trans hf3 (fun i hi e => by have := b2.size; omega)))
    rw [laidAt_all _ _ (by rw [hPs]; rfl)] at hw6
    refine bodyPost_ret (v := .tuple #[.agg P, .int .i64 E]) (results_cell_slot (p := 2) (u := 3) rfl _ _ _ _ _ _ rfl hw6 Tryd.underlying23 rfl (by rw [hPs]; exact size32)) rfl ?_
    exact ⟨rfl, ((HF.out.trans F3 (fun i hi e => e)).trans hf6 (fun i hi e => by omega)).below (fun _ _ e => e)⟩
  · have hne : ((s.size : Int) != 64) = true := by
      have : (s.size : Int) ≠ 64 := by omega
      simpa using this
    go_wp2_with (refine wpList_store_at rfl 23 _ _ rfl w.heap.size 0 23 _ zero32 rfl rfl HZ.out (by decide) size32 zero32_one ?_
                 intro w6 hw6 hf6)
    rw [laidAt_all _ _ rfl] at hw6
    refine bodyPost_ret (v := .tuple #[.agg zero32, .int .i64 3]) (results_cell_slot (p := 2) (u := 3) rfl _ _ _ _ _ _ rfl hw6 Tryd.underlying23 rfl size32) rfl ?_
    refine ⟨?_, (HF.out.trans hf6 (fun i hi e => by omega)).below (fun _ _ e => e)⟩
    rw [rdA, rdE, if_neg hn, if_neg hn]
    rfl
end Go.Proofs.YtppddpbacpeadaaDoor.Ids

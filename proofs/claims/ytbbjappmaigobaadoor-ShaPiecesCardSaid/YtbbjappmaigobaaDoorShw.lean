/- What is proved: what a Hash holds behind Write. Conditions: the table of constants holds what start-up lays; the Hash lies alone in its block; the piece's bytes lie elsewhere. -/
import Derived.Test.YtbbjappmaigobaaDoorShj
import Derived.Deep.RegionLaw
namespace Go.Proofs.YtbbjappmaigobaaDoor
open Go.RowKit
set_option linter.unusedVariables false

theorem Lies.below {w w' : World} {A : Option Addr} {xs : List Value} (h : Lies w A xs) (f : Below w.heap.size w w') : Lies w' A xs := by
  rcases h with h | ⟨b, o, rfl, hc⟩
  · exact .inl h
  · refine .inr ⟨b, o, rfl, fun j u hu => ?_⟩
    have h1 := hc j u hu
    exact (World.cell?_of_block (f.block b (World.block_lt_of_cell? w _ h1))).trans h1

theorem Lies.lt {w : World} {A : Option Addr} {xs : List Value} (h : Lies w A xs) (hx : xs ≠ []) : ∀ ad, A = some ad → ad.block < w.heap.size := by
  rcases h with h | ⟨b, o, rfl, hc⟩
  · exact absurd h hx
  · intro ad had
    cases had
    cases xs with
    | nil => exact absurd rfl hx
    | cons v xs => exact World.block_lt_of_cell? w _ (hc 0 v rfl)

/-- Where the rest of a slice's bytes lies. -/
theorem lies_drop {w : World} {A : Option Addr} {bs : List UInt8} (n c : Nat) (h : Lies w A (bytesV bs)) (hn : n ≤ bs.length) :
    ∃ A', (if c = n then A else A.map (·.add n)) = A' ∧ (bs.length ≤ c → Lies w A' (bytesV (bs.drop n))) ∧ (∀ ad, A' = some ad → ∃ ad0, A = some ad0 ∧ ad0.block = ad.block) := by
  refine ⟨_, rfl, fun hc => ?_, ?_⟩
  · by_cases e : c = n
    · have hd : bs.drop n = [] := List.drop_of_length_le (by omega)
      rw [hd]
      exact .inl rfl
    · rw [if_neg e]
      rcases h with h | ⟨b, o, rfl, hcl⟩
      · have : bs = [] := List.eq_nil_of_length_eq_zero (by rw [← bytesV_length, h]; rfl)
        subst this
        exact .inl (by simp [bytesV])
      · refine .inr ⟨b, o + n, by simp [add_off], fun j u hu => ?_⟩
        have hu2 : (bytesV bs)[n + j]? = some u := by
          unfold bytesV at hu ⊢
          rw [List.getElem?_map, List.getElem?_drop] at hu
          rw [List.getElem?_map]
          exact hu
        have := hcl (n + j) u hu2
        rw [Nat.add_assoc]
        exact this
  · intro ad had
    by_cases e : c = n
    · rw [if_pos e] at had
      exact ⟨ad, had, rfl⟩
    · rw [if_neg e] at had
      cases A with
      | none => simp at had
      | some a0 =>
        simp at had
        exact ⟨a0, rfl, by rw [← had]; unfold Addr.add; split <;> rfl⟩

/-- A copy into a stretch of a row, as a step of a region that draws its order. -/
theorem step_copy_at {P : Program} {ops : Array Oper} {o : Oper} {a : Act} {w : World} {K : Act → World → Prop} {Q : Exit → Act → World → Prop} {E : Prop} (hgd : o.guard = none) (d s : Operand) (dT sT : TypeId)
    (ho : o.op = .call { callee := .builtin .copy, args := #[d, s], argTypes := #[dT, sT] }) (elem : TypeId) (hu : P.underlying dT = some (.slice elem)) (hsz : (P.info? elem).map (·.size) = some 1)
    (g off dLen dCap : Nat) (sp : Option Addr) (sLen sCap : Nat) (hd : a.eval d = .slice (some ⟨g, off, none⟩) dLen dCap) (hs : a.eval s = .slice sp sLen sCap)
    (cur : Array Value) (t : TypeId) (hg : Whole w g t cur) (cs : List Value) (hn : cs.length = Nat.min sLen dLen) (hpos : 0 < cs.length) (hsrc : Lies w sp cs)
    (hfit : off + cs.length ≤ cur.size) (h1 : ∀ v ∈ cs, v.oneCell' = true)
    (h : ∀ w', Whole w' g t (splice cur.toList off cs).toArray → Fr (fun k => k = g) w w' → K (a.put o.dst (goInt cs.length)) w') :
    if Region.wanted o (yielded ops a.tmps) = true then Oper.wp P o a w K Q else E := by
  have hw : Region.wanted o (yielded ops a.tmps) = true := by simp [Region.wanted, hgd]
  rw [if_pos hw]
  rcases hsrc with h0 | ⟨b, f, rfl, hc⟩
  · subst h0
    simp at hpos
  · have hrun := run_copy_row (P := P) w dT sT o.type elem g off dLen dCap ⟨b, f, none⟩ sLen sCap cur t cs hu hsz hg hn (fun j v hv => by rw [add_off]; exact hc j v hv) hfit h1
    unfold Oper.wp
    simp [execOp, ho, resolve, invoke, builtin, hd, hs, hrun, Result.andThen]
    exact h _ (by simpa [splice] using hg.laid _) (by simpa [splice] using Fr.laid w g _)

/-- A store, a load of a whole array, as steps of a region that draws its order. -/
theorem step_store_at {P : Program} {ops : Array Oper} {op : Oper} {a : Act} {w : World} {K : Act → World → Prop} {Q : Exit → Act → World → Prop} {E : Prop} (hgd : op.guard = none) (ty : TypeId) (x y : Operand) (ho : op.op = .store ty x y)
    (g o : Nat) (t : TypeId) (cs vs : Array Value) (hx : a.eval x = .pointer (some ⟨g, o, none⟩)) (hy : a.eval y = .agg vs) (hg : Whole w g t cs) (hfit : o + vs.size ≤ cs.size)
    (hi : (P.info? ty).map (·.size) = some vs.size) (h1 : vs.all (·.oneCell') = true)
    (h : ∀ w', Whole w' g t (laidAt cs o vs) → Fr (fun k => k = g) w w' → K (a.put op.dst undef) w') : if Region.wanted op (yielded ops a.tmps) = true then Oper.wp P op a w K Q else E := by
  have hw : Region.wanted op (yielded ops a.tmps) = true := by simp [Region.wanted, hgd]
  rw [if_pos hw]
  exact wp_store_at ty x y ho g o t cs vs hx hy hg hfit hi h1 h
theorem step_load_at {P : Program} {ops : Array Oper} {op : Oper} {a : Act} {w : World} {K : Act → World → Prop} {Q : Exit → Act → World → Prop} {E : Prop} (hgd : op.guard = none) (ty : TypeId) (x : Operand) (ho : op.op = .load ty x)
    (g o : Nat) (vs : List Value) (d : TypeDesc) (hx : a.eval x = .pointer (some ⟨g, o, none⟩)) (hc : w.rangeAt g o vs) (hu : P.underlying ty = some d) (hd : d.isRow = true)
    (hi : (P.info? ty).map (·.size) = some vs.length)
    (h : K (a.put op.dst (.agg vs.toArray)) w) : if Region.wanted op (yielded ops a.tmps) = true then Oper.wp P op a w K Q else E := by
  have hw : Region.wanted op (yielded ops a.tmps) = true := by simp [Region.wanted, hgd]
  rw [if_pos hw]
  exact wp_load_mid ty x ho g o hx vs d hc hu hd hi h

theorem run_storeCells_whole {P : Program} {w : World} {g o : Nat} {t : TypeId} {cs : Array Value} (vs : Array Value) (hg : Whole w g t cs) (hfit : o + vs.size ≤ cs.size) (h1 : vs.all (·.oneCell') = true) :
    ∃ w', (storeCells ⟨g, o, none⟩ vs.toList).run P w = .ok () w' ∧ Whole w' g t (laidAt cs o vs) ∧ Fr (fun k => k = g) w w' := by
  have := run_storeCells_at P g o t vs.toList 0 cs w hg (by simpa using hfit) (fun v hv => (Array.all_eq_true_iff_forall_mem.1 h1) v (by simpa using hv))
  simp only [Nat.add_zero] at this
  exact ⟨_, this, hg.laid _, Fr.laid w g _⟩

theorem lies_take {w : World} {A : Option Addr} {bs : List UInt8} (h : Lies w A (bytesV bs)) (n : Nat) : Lies w A (bytesV (bs.take n)) := by
  rcases h with h | ⟨b, o, rfl, hc⟩
  · have : bs = [] := List.eq_nil_of_length_eq_zero (by rw [← bytesV_length, h]; rfl)
    subst this
    exact .inl (by simp [bytesV])
  · refine .inr ⟨b, o, rfl, fun j u hu => hc j u ?_⟩
    unfold bytesV at hu ⊢
    rw [List.getElem?_map, List.getElem?_take] at hu
    rw [List.getElem?_map]
    split at hu
    · exact hu
    · simp at hu
theorem size_u8 : (Tryd.prog.info? 5).map (·.size) = some 1 := by kernel_rfl

theorem slice_rest (g o : Nat) (ho : o < 64) (w : World) : (Instr.sliceAt 54 (.pointer (some ⟨g, 10, none⟩)) (some (.int .u64 o)) none none).run Tryd.prog w = .ok (.slice (some ⟨g, 10 + o, none⟩) (64 - o) (64 - o)) w := by
  have ht : Tryd.prog.underlying 54 = some (.array (Tryd.prog.arrayLen 54) (Tryd.prog.elem 54)) := by kernel_rfl
  have hl : Tryd.prog.arrayLen 54 = 64 := by kernel_rfl
  have hs : (sizeOf (Tryd.prog.elem 54)).run Tryd.prog w = .ok 1 w := by kernel_rfl
  have h := run_sliceAt_array_l (P := Tryd.prog) w 54 ⟨g, 10, none⟩ ht .u64 (o : Int) (by omega) (by rw [hl]; omega)
  rw [h, hs, hl]
  have hne : ¬ 64 = o := by omega
  simp [slicedAt, hne, add_off]

theorem slice_all (g : Nat) (w : World) : (Instr.sliceAt 54 (.pointer (some ⟨g, 10, none⟩)) none none none).run Tryd.prog w = .ok (.slice (some ⟨g, 10, none⟩) 64 64) w := by
  have ht : Tryd.prog.underlying 54 = some (.array (Tryd.prog.arrayLen 54) (Tryd.prog.elem 54)) := by kernel_rfl
  have hl : Tryd.prog.arrayLen 54 = 64 := by kernel_rfl
  have hs : (sizeOf (Tryd.prog.elem 54)).run Tryd.prog w = .ok 1 w := by kernel_rfl
  have h := run_sliceAt_array_all (P := Tryd.prog) w 54 ⟨g, 10, none⟩ ht
  rw [h, hs, hl]
  simp [slicedAt, add_off]

theorem hcells_range {w : World} {g : Nat} {t : TypeId} {n : Nat} {s : S8} {r : List UInt8} (h : Whole w g t (hcells n s r)) : w.rangeAt g 2 s.vals.toList := fun j v hv => by
  rw [h.cell, hcells, List.getElem?_toArray, List.getElem?_append_left (by have := (List.getElem?_eq_some_iff.1 hv).1; simp only [List.length_append, List.length_cons, List.length_nil]; omega), List.getElem?_append_right (by simp)]
  show s.vals.toList[2 + j - 2]? = _
  rw [Nat.add_sub_cancel_left]
  exact hv
theorem hcells_cells {w : World} {g : Nat} {t : TypeId} {n : Nat} {s : S8} {r : List UInt8} (h : Whole w g t (hcells n s r)) :
    w.cell? ⟨g, 2, none⟩ = some (.int .u32 s.a) ∧ w.cell? ⟨g, 3, none⟩ = some (.int .u32 s.b) ∧ w.cell? ⟨g, 4, none⟩ = some (.int .u32 s.c) ∧ w.cell? ⟨g, 5, none⟩ = some (.int .u32 s.d) ∧
    w.cell? ⟨g, 6, none⟩ = some (.int .u32 s.e) ∧ w.cell? ⟨g, 7, none⟩ = some (.int .u32 s.f) ∧ w.cell? ⟨g, 8, none⟩ = some (.int .u32 s.g) ∧ w.cell? ⟨g, 9, none⟩ = some (.int .u32 s.h) :=
  ⟨hcells_range h 0 _ rfl, hcells_range h 1 _ rfl, hcells_range h 2 _ rfl, hcells_range h 3 _ rfl, hcells_range h 4 _ rfl, hcells_range h 5 _ rfl, hcells_range h 6 _ rfl, hcells_range h 7 _ rfl⟩
theorem hcells_byte {w : World} {g : Nat} {t : TypeId} {n : Nat} {s : S8} {r : List UInt8} (h : Whole w g t (hcells n s r)) (i : Nat) (hi : i < r.length) : w.cell? ⟨g, 10 + i, none⟩ = some (.int .u8 (byteI r i)) := by
  rw [h.cell, hcells_rest, bytesV, List.getElem?_map, List.getElem?_eq_getElem hi]
  simp [byteV, byteI, List.getD_eq_getElem?_getD, List.getElem?_eq_getElem hi]

theorem hash_some {w : World} {g : Nat} {m r q r2 : List UInt8} {k n o : Nat} (hn : m.length = n) (ho : n % 64 = o) (hk : (q.take k).length = k) (hr2 : r.take o ++ (q.take k ++ r.drop (o + (q.take k).length)) = r2) (hlt : o + k < 64)
    (len : r.length = 64) (rest : r.take (m.length % 64) = m.drop (64 * (m.length / 64))) (hw : Whole w g 56 (hcells (n + k) (stOf m) r2)) : HashAt w g (m ++ q.take k) r2 := by
  have hm : m.length % 64 = o := by rw [hn, ho]
  obtain ⟨s1, s2, s3⟩ := step_some m r (q.take k) (by omega) len rest
  rw [hm, hr2] at s2 s3
  refine ⟨s3, s2, ?_⟩
  rw [s1, List.length_append, hk, hn]
  exact hw
theorem hash_full {w : World} {g : Nat} {m r q r2 : List UInt8} {k n o : Nat} (hn : m.length = n) (ho : n % 64 = o) (hk : (q.take k).length = k) (hr2 : r.take o ++ (q.take k ++ r.drop (o + (q.take k).length)) = r2) (hlt : o + k = 64)
    (len : r.length = 64) (rest : r.take (m.length % 64) = m.drop (64 * (m.length / 64))) (hw : Whole w g 56 (hcells (n + k) (blk (stOf m) r2) r2)) : HashAt w g (m ++ q.take k) r2 := by
  have hm : m.length % 64 = o := by rw [hn, ho]
  obtain ⟨s1, s2, s3⟩ := step_full m r (q.take k) (by omega) len rest
  rw [hm, hr2] at s1 s2 s3
  refine ⟨s3, s2, ?_⟩
  rw [s1, List.length_append, hk, hn]
  exact hw

set_option maxHeartbeats 1600000 in
theorem HWrite_any (g : Nat) (l r : List UInt8) (A : Option Addr) (cap : Nat) (p : List UInt8) (w : World) (h : HashAt w g l r) (ht : Tab w) (hg : g ≠ 0) (hp : Lies w A (bytesV p)) (hA : p ≠ [] → ∀ ad, A = some ad → ad.block ≠ g) (hcap : p.length ≤ cap)
    (hm : l.length + p.length ≤ 140737488355328) :
    Calls Tryd.prog 18 #[.pointer (some ⟨g, 0, none⟩), .slice A p.length cap] w fun e w' => e = .returned (.tuple #[]) ∧ ∃ r', HashAt w' g (l ++ p) r' ∧ Fr (fun k => k = g) w w' := by
  go_enter Tryd.func18, Tryd.ntmps18
  go_wp2_with (go_at_call 25; refine (Hgood_any g l r _ h).mono ?_; rintro e w2 ⟨rfl, rfl⟩)
  go_loopw [1] (fun s wr => ∃ (j : Nat) (A' : Option Addr) (cap' : Nat) (r' : List UInt8), j ≤ p.length ∧ s = .slice A' (p.drop j).length cap' ∧ (p.drop j).length ≤ cap' ∧ Lies wr A' (bytesV (p.drop j)) ∧ (p ≠ [] → ∀ ad, A' = some ad → ad.block ≠ g) ∧ HashAt wr g (l ++ p.take j) r' ∧ Fr (fun k => k = g) w wr) (fun s _ => match s with | .slice _ n _ => n | _ => 0)
  case atStart => exact ⟨0, A, cap, r, by omega, rfl, hcap, hp, hA, by simpa using h, Fr.refl _ _⟩
  case round =>
    obtain ⟨j, A', cap', r', hj, rfl, hcap', hl, hA', hh, hf⟩ := hrel
    have hT := ht.fr hf (fun e => hg e.symm)
    obtain ⟨q, hq⟩ : ∃ q, p.drop j = q := ⟨_, rfl⟩
    obtain ⟨m, hml⟩ : ∃ m, l ++ p.take j = m := ⟨_, rfl⟩
    rw [hq] at hcap' hl ⊢
    rw [hml] at hh
    by_cases h0 : q.length = 0
    · have hj2 : j = p.length := by
        have : q.length = p.length - j := by rw [← hq, List.length_drop]
        omega
      rw [h0]
      go_wp2_with fail
      refine bodyPost_end (results_none rfl _ _ _) rfl ?_
      exact ⟨rfl, r', by rw [← hml, hj2, List.take_length] at hh; exact hh, hf⟩
    · have hlen : m.length ≤ 140737488355328 := by rw [← hml, List.length_append, List.length_take]; omega
      have hqb : m.length + q.length ≤ 140737488355328 := by rw [← hml, ← hq, List.length_append, List.length_take, List.length_drop]; omega
      have hql : 0 < q.length := by omega
      have hA' := hA' (by rintro rfl; rw [← hq] at hql; simp at hql)
      obtain ⟨n, hn⟩ : ∃ n, m.length = n := ⟨_, rfl⟩
      obtain ⟨z, hz⟩ : ∃ z, q.length = z := ⟨_, rfl⟩
      rw [hz] at hqb hql hcap' ⊢
      rw [hn] at hqb
      obtain ⟨k, hk⟩ : ∃ k, min (64 - n % 64) z = k := ⟨_, rfl⟩
      have hkz : k ≤ z := by omega
      have hk0 : 0 < k := by omega
      have hko : n % 64 + k ≤ 64 := by omega
      have cn := hh.whole.cell 1
      rw [hcells_n, hn] at cn
      have HH := Lib.hid hh
      have HL := Lib.hid hl
      clear hh hl
      have i0 : (0 : Int) < z := by omega
      have hqd : p.drop (j + k) = q.drop k := by rw [← hq, List.drop_drop]
      have hqdl : (q.drop k).length = z - k := by rw [List.length_drop, hz]
      have hpt : l ++ p.take (j + k) = m ++ q.take k := by rw [← hml, ← hq, List.take_add, List.append_assoc]
      have hjk : j + k ≤ p.length := by
        have : q.length = p.length - j := by rw [← hq, List.length_drop]
        omega
      obtain ⟨o, ho⟩ : ∃ o, n % 64 = o := ⟨_, rfl⟩
      have ho64 : o < 64 := by omega
      have i1 : (n : Int).tmod 64 = (o : Int) := by rw [← ho, Int.tmod_eq_emod_of_nonneg (by omega)]; omega
      have i2 := fun w => slice_rest g o ho64 w
      rw [ho] at hk hko
      have hqt : (bytesV (q.take k)).length = k := by rw [bytesV_length, List.length_take]; omega
      have hLt := lies_take HL.out k
      have hnk : (bytesV (q.take k)).length = Nat.min z (64 - o) := by rw [hqt, ← hk]; exact Nat.min_comm _ _
      go_wp2_with fail
      go_region_law (refine step_copy_at (by rfl) (.tmp 19) (.tmp 20) 24 24 (by rfl) 5 Tryd.underlying24 size_u8 g (10 + o) (64 - o) (64 - o) A' z cap' (by rfl) (by rfl) _ 56 HH.out.whole (bytesV (q.take k)) hnk (by omega) hLt (by rw [hcells_size, HH.out.len]; omega) (bytesV_one _) ?_; intro w2 hw2 hf2)
      rw [hcells_laidRest] at hw2
      obtain ⟨r2, hr2⟩ : ∃ r2, r'.take o ++ (q.take k ++ r'.drop (o + (q.take k).length)) = r2 := ⟨_, rfl⟩
      rw [hr2] at hw2
      have c1 := hw2.cell 1
      have f1 := hw2.frozen 1
      rw [hcells_n] at c1
      obtain ⟨A2, hA2, hl2, hb2⟩ := lies_drop k cap' HL.out (by omega)
      have hW3 := hw2.set 1 (.int .u64 ((n + k : Nat) : Int))
      rw [hcells_setN] at hW3
      have hF3 : Fr (fun k => k = g) wr (w2.setCell ⟨g, 1, none⟩ (.int .u64 ((n + k : Nat) : Int))) := (((Fr.refl _ wr).drew.trans hf2 (fun i hi e => e)).setCell (p := ⟨g, 1, none⟩) (fun _ => rfl) _)
      have j1 : (k : Int) ≤ z := by omega
      have j2 : (k : Int) ≤ cap' := by omega
      have hnk2 : ((n + k : Nat) : Int) = (n : Int) + k := by omega
      rw [hnk2] at hW3 hF3
      obtain ⟨W3, hW3e⟩ : ∃ W3, w2.setCell ⟨g, 1, none⟩ (.int .u64 ((n : Int) + k)) = W3 := ⟨_, rfl⟩
      rw [hW3e] at hW3 hF3
      have c3 := hW3.cell 1
      rw [hcells_n, hnk2] at c3
      have hrl : r2.length = 64 := by
        rw [← hr2]
        simp only [List.length_append, List.length_take, List.length_drop, HH.out.len]
        have : q.length = z := hz
        omega
      have HW3 := Lib.hid hW3
      have HF3 := Lib.hid hF3
      have HT3 := Lib.hid (hT.fr hF3 (fun e => hg e.symm))
      clear hW3 hF3 i1 i2 cn hT
      have HR2 := Lib.hid hr2
      have HL2 := Lib.hid hl2
      clear hr2 hl2
      by_cases hfull : o + k = 64
      · have t0 : ((n : Int) + k) % 64 = 0 := by omega
        have i3 := fun w => slice_all g w
        obtain ⟨sa, sb, sc, sd, se, sf, sg, sh⟩ := hcells_cells HW3.out
        have HWd := Lib.hid (Whole.fr HW3.out ((Fr.refl (fun _ => False) W3).drew) (fun e => e))
        have HTd := Lib.hid (Tab.fr HT3.out ((Fr.refl (fun _ => False) W3).drew) (fun e => e))
        go_wp2_with fail
        go_region_law (first
          | (go_simp; go_at_call 7; refine (SBlock_ok (stOf m) g 10 64 r2 _ hrl (fun i hi => hcells_byte HWd.out i (by rw [hrl]; exact hi)) HTd.out).mono ?_; rintro e w4 ⟨rfl, b4⟩; have hW4 := HWd.out.fr (Fr.of_below (S := fun _ => False) b4) (fun e => e); obtain ⟨w5, hst, hw5, hf5⟩ := run_storeCells_whole (P := Tryd.prog) (o := 2) (blk (stOf m) r2).vals hW4 (by rw [hcells_size, hrl, S8.size]; decide) (S8.one _); have hs8 := S8.size (blk (stOf m) r2)))
        rw [hcells_laidState] at hw5
        have hlw5 := Lies.fr (S := fun k => k = g) (HL2.out (by omega)) (((HF3.out.drew).trans (Fr.of_below (S := fun _ => False) b4) (fun _ _ e => e.elim)).trans hf5 (fun i hi e => e)) (fun ad had => by obtain ⟨ad0, h1, h2⟩ := hb2 ad had; rw [← h2]; exact hA' ad0 h1)
        have hh5 := hash_full hn ho (by rw [← bytesV_length]; exact hqt) HR2.out hfull HH.out.len HH.out.rest hw5
        have hf6 := ((HF3.out.drew).trans (Fr.of_below (S := fun _ => False) b4) (fun _ _ e => e.elim)).trans hf5 (fun i hi e => e)
        have HH5 := Lib.hid hh5
        have HL5 := Lib.hid hlw5
        clear hh5 hlw5 hst hs8 sa sb sc sd se sf sg sh
        go_wp2_with fail
        go_roundw
        case rel => exact ⟨j + k, A2, cap' - k, r2, by omega, by rw [hqd, hqdl], by rw [hqd, hqdl]; omega, by rw [hqd]; exact HL5.out, fun _ ad had => (by obtain ⟨ad0, h1, h2⟩ := hb2 ad had; rw [← h2]; exact hA' ad0 h1), by rw [hpt]; exact HH5.out, hf.trans hf6 (fun i hi e => e)⟩
        case measure => simp; omega
      · have t0 : ((n : Int) + k) % 64 ≠ 0 := by omega
        go_wp2_with fail
        go_roundw
        case rel => exact ⟨j + k, A2, cap' - k, r2, by omega, by rw [hqd, hqdl], by rw [hqd, hqdl]; omega, by rw [hqd]; exact Lies.fr (S := fun k => k = g) (HL2.out (by omega)) HF3.out (fun ad had => by obtain ⟨ad0, h1, h2⟩ := hb2 ad had; rw [← h2]; exact hA' ad0 h1), fun _ ad had => (by obtain ⟨ad0, h1, h2⟩ := hb2 ad had; rw [← h2]; exact hA' ad0 h1), by rw [hpt]; exact hash_some hn ho (by rw [← bytesV_length]; exact hqt) HR2.out (by omega) HH.out.len HH.out.rest HW3.out, hf.trans HF3.out (fun i hi e => e)⟩
        case measure => simp; omega
end Go.Proofs.YtbbjappmaigobaaDoor

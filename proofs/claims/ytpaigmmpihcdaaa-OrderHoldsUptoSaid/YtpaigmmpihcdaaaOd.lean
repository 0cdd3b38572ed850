/- What is proved: what the walks of this seat need of layers below, merged out of the texts Ke Kf Kh Kn Ko Kp Kq Kt Kw Kyr (of each just what is needed). Conditions: each theorem names its own. -/
import Derived.Laws.CopyRow
import Derived.Lib.AppendZerosOnto
import Derived.Lib.Overlaps
import Derived.Deep.RegionWith
import Derived.BigQuiet
import Derived.Test.YtpaigmmpihcdaaaOc
import Derived.Shelf.Abstract
/- What is proved: one number is put into a row of the call's own, by the library. Conditions: the row is the call's own, the number lies elsewhere. -/
namespace Go.Proofs.Ytpaigmmpihcdaaa
open Go.RowKit Go.Shelf
set_option linter.unusedVariables false
/-! A copy of cells into a row. -/
theorem run_copy_rowK {P : Program} (w : World) (dT sT ty elem : TypeId) (size : Nat) (g o dLen dCap : Nat) (ad : Addr) (sLen sCap : Nat) (cur : Array Value) (t : TypeId) (cs : List Value) (m : Nat)
    (hu : P.underlying dT = some (.slice elem)) (hs : (P.info? elem).map (·.size) = some size)
    (hg : w.heap[g]? = some (.cells cur t (0, 0))) (hm : m = Nat.min sLen dLen) (hn : cs.length = m * size)
    (hsrc : ∀ j v, cs[j]? = some v → w.cell? (ad.add j) = some v) (hfit : o + cs.length ≤ cur.size) (h1 : ∀ v ∈ cs, v.oneCell' = true) :
    (Builtin.copy_ #[dT, sT] ty #[.slice (some ⟨g, o, none⟩) dLen dCap, .slice (some ad) sLen sCap]).run P w =
      .ok (goInt m) (w.setRow g (cur.toList.take o ++ cs ++ cur.toList.drop (o + cs.length)).toArray) := by
  have hl := run_loadCells_list (P := P) w ad cs hsrc
  have hst := run_storeCells_at P g o t cs 0 cur w hg (by simpa using hfit) h1
  rw [hn] at hl
  cases hq : P.info? elem with
  | none => simp [hq] at hs
  | some i =>
    have hi : i.size = size := by simpa [hq] using hs
    simp [Builtin.copy_, run_underlying hu, Builtin.lenOf, Builtin.firstCells, sizeOf, typeInfo, hq, hi, ← hm, hl, hst]
theorem wpList_copyK {P : Program} {w : World} {ops : Array Oper} {rest : List Oper} {o : Oper} {a : Act} {Q : Exit → Act → World → Prop} (hgd : o.guard = none) (d s : Operand) (dT sT : TypeId)
    (ho : o.op = .call { callee := .builtin .copy, args := #[d, s], argTypes := #[dT, sT] }) (elem : TypeId) (size : Nat) (hu : P.underlying dT = some (.slice elem)) (hsz : (P.info? elem).map (·.size) = some size)
    (g off dLen dCap : Nat) (b f : Nat) (sLen sCap : Nat) (hd : a.eval d = .slice (some ⟨g, off, none⟩) dLen dCap) (hs : a.eval s = .slice (some ⟨b, f, none⟩) sLen sCap)
    (cur : Array Value) (t : TypeId) (hg : Whole w g t cur) (cs : List Value) (m : Nat) (hm : m = Nat.min sLen dLen) (hn : cs.length = m * size) (hsrc : ∀ j v, cs[j]? = some v → w.cell? ⟨b, f + j, none⟩ = some v)
    (hfit : off + cs.length ≤ cur.size) (h1 : ∀ v ∈ cs, v.oneCell' = true)
    (h : ∀ w', Whole w' g t (cur.toList.take off ++ cs ++ cur.toList.drop (off + cs.length)).toArray → Fr (fun k => k = g) w w' → wpList P ops Q rest (a.put o.dst (goInt m)) w') : wpList P ops Q (o :: rest) a w :=
  wpList_plain hgd fun K hK => by
    have hrun := run_copy_rowK (P := P) w dT sT o.type elem size g off dLen dCap ⟨b, f, none⟩ sLen sCap cur t cs m hu hsz hg hm hn (fun j v hj => by rw [add_off]; exact hsrc j v hj) hfit h1
    unfold Oper.wp execOp
    simp only [ho, resolve, invoke, builtin, Sem.run_bind, Sem.run_pure, Result.andThen_ok, List.map_toArray, List.map_cons, List.map_nil, hd, hs, hrun]
    exact hK _ _ (h _ (hg.laid _) (Fr.laid w g _))
theorem wp_copyK {P : Program} {w : World} {o : Oper} {a : Act} {K : Act → World → Prop} {Q : Exit → Act → World → Prop} (d s : Operand) (dT sT : TypeId)
    (ho : o.op = .call { callee := .builtin .copy, args := #[d, s], argTypes := #[dT, sT] }) (elem : TypeId) (size : Nat) (hu : P.underlying dT = some (.slice elem)) (hsz : (P.info? elem).map (·.size) = some size)
    (g off dLen dCap : Nat) (b f : Nat) (sLen sCap : Nat) (hd : a.eval d = .slice (some ⟨g, off, none⟩) dLen dCap) (hs : a.eval s = .slice (some ⟨b, f, none⟩) sLen sCap)
    (cur : Array Value) (t : TypeId) (hg : Whole w g t cur) (cs : List Value) (m : Nat) (hm : m = Nat.min sLen dLen) (hn : cs.length = m * size) (hsrc : ∀ j v, cs[j]? = some v → w.cell? ⟨b, f + j, none⟩ = some v)
    (hfit : off + cs.length ≤ cur.size) (h1 : ∀ v ∈ cs, v.oneCell' = true)
    (h : ∀ w', Whole w' g t (cur.toList.take off ++ cs ++ cur.toList.drop (off + cs.length)).toArray → Fr (fun k => k = g) w w' → K (a.put o.dst (goInt m)) w') : Oper.wp P o a w K Q := by
  have hrun := run_copy_rowK (P := P) w dT sT o.type elem size g off dLen dCap ⟨b, f, none⟩ sLen sCap cur t cs m hu hsz hg hm hn (fun j v hj => by rw [add_off]; exact hsrc j v hj) hfit h1
  unfold Oper.wp execOp
  simp only [ho, resolve, invoke, builtin, Sem.run_bind, Sem.run_pure, Result.andThen_ok, List.map_toArray, List.map_cons, List.map_nil, hd, hs, hrun]
  exact h _ (hg.laid _) (Fr.laid w g _)
theorem wpList_append_to {P : Program} {w : World} {ops : Array Oper} {rest : List Oper} {o : Oper} {a : Act} {Q : Exit → Act → World → Prop} (hgd : o.guard = none) (s x : Operand) (t tx : TypeId)
    (ho : o.op = .call { callee := .builtin .append, args := #[s, x], argTypes := #[t, tx] }) (u y v : Value) (w' : World) (hs : a.eval s = u) (hx : a.eval x = y) (hrun : ∀ ty, (Builtin.append_ #[t, tx] ty #[u, y]).run P w = .ok v w')
    (h : wpList P ops Q rest (a.put o.dst v) w') : wpList P ops Q (o :: rest) a w :=
  wpList_plain hgd fun K hK => by
    unfold Oper.wp execOp
    simp only [ho, resolve, invoke, builtin, Sem.run_bind, Sem.run_pure, Result.andThen_ok, List.map_toArray, List.map_cons, List.map_nil, hs, hx, hrun]
    exact hK _ _ h
theorem splice_at (P R cs : List Value) (o : Nat) (ho : P.length = o) : ((P ++ R).take o ++ cs ++ (P ++ R).drop (o + cs.length)) = P ++ (cs ++ R.drop cs.length) := by
  subst ho
  rw [List.take_left, List.append_assoc]
  congr 2
  rw [List.drop_append, List.drop_of_length_le (by omega), Nat.add_sub_cancel_left, List.nil_append]
theorem size_int : (Try.prog.info? 3).map (·.size) = some 1 := by kernel_rfl
theorem zeroI_cells : (Value.int .i64 0).cells.size = 1 := by kernel_rfl
theorem nC_one1 (x : Nat) : nC [x] = [.int .i64 (x : Nat)] := rfl
theorem nC_len1 (x : Nat) : (nC [x]).length = 1 := rfl
theorem nC_oneX (x : Nat) : ∀ v ∈ nC [x], v.oneCell' = true := nC_one [x]
theorem nC_drop (l : List Nat) (k : Nat) : nC (l.drop k) = (nC l).drop k := by simp [nC]
theorem nC_take (l : List Nat) (k : Nat) : nC (l.take k) = (nC l).take k := by simp [nC]
theorem nC_put (l : List Nat) (x : Nat) (i : Nat) : nC (l.take i ++ x :: l.drop i) = (nC (l.take i) ++ nC [x]) ++ nC (l.drop i) := by simp [nC]
theorem nat_snoc (l : List Nat) (k : Nat) (h : k < l.length) : l.take (k + 1) = l.take k ++ [l.getD k 0] := by
  rw [List.take_add_one, List.getElem?_eq_getElem h, List.getD_eq_getElem?_getD, List.getElem?_eq_getElem h]; rfl
theorem takeN_len {l : List Nat} {i : Nat} (h : i ≤ l.length) : (nC (l.take i)).length = i := by rw [nC_len, List.length_take]; omega
theorem Lies.takeN {w : World} {A : Option Addr} {l : List Nat} (h : Lies w A (nC l)) (m : Nat) : Lies w A (nC (l.take m)) := by
  rw [nC_take]
  rcases h with h | ⟨b, o, rfl, hc⟩
  · rw [h]; exact .inl (by simp)
  · refine .inr ⟨b, o, rfl, fun j u hu => hc j u ?_⟩
    rw [List.getElem?_take] at hu
    split at hu
    · exact hu
    · simp at hu
theorem OwnN.lies {w0 w : World} {A : Option Addr} {n c : Nat} {l : List Nat} (h : OwnN w0 w (.slice A n c) l) : Lies w A (nC l) := by
  obtain ⟨B, d, hv, _, _, _, hl⟩ := h.shape
  injection hv with h1 h2 h3
  rw [h1]; exact hl
theorem OwnN.row {w0 w : World} {g n c : Nat} {l : List Nat} (h : OwnN w0 w (.slice (some ⟨g, 0, none⟩) n c) l) :
    ∃ rest : List Value, Whole w g 3 (nC l ++ rest).toArray ∧ (nC l ++ rest).length = c ∧ n = l.length ∧ n ≤ c ∧ c ≤ maxLen ∧ w0.heap.size ≤ g := by
  rcases h.1.2 with ⟨h0, _⟩ | ⟨g', cap', cur, h0, hbg, hg, hnc, hcm, hcs, htake⟩
  · cases h0
  · injection h0 with e1 e2 e3
    injection e1 with e1
    injection e1 with e1 _ _
    subst e1; subst e3
    rw [Nat.mul_one] at hcs htake
    have hc : cur.toList = nC l ++ cur.toList.drop l.length := by
      rw [← htake, List.take_append_drop]
    refine ⟨cur.toList.drop l.length, ?_, ?_, e2, by rw [e2]; exact hnc, hcm, hbg⟩
    · rw [← hc, Array.toArray_toList]; exact hg
    · rw [← hc, Array.length_toList]; exact hcs
theorem OwnN.of_row {w0 w : World} {g c : Nat} {l : List Nat} {rest : List Value} (hW : Whole w g 3 (nC l ++ rest).toArray) (hs : (nC l ++ rest).length = c) (hc : l.length ≤ c) (hm : c ≤ maxLen) (hg : w0.heap.size ≤ g) (f : Fr (fun _ => False) w0 w) : OwnN w0 w (.slice (some ⟨g, 0, none⟩) l.length c) l := by
  refine ⟨⟨by rw [nC_len, Nat.mul_one], .inr ⟨g, c, _, rfl, hg, hW, hc, hm, by rw [List.size_toArray, Nat.mul_one]; exact hs, ?_⟩⟩, f⟩
  rw [Nat.mul_one, ← nC_len]
  exact List.take_left
theorem wpAnyH_takeM {P : Program} {ops : Array Oper} {Q : Exit → Act → World → Prop} {md : Region.Mode} {S : World → Prop} {i : Nat} {oi : Oper} {v : Value} {fuel : Nat} {listed : Array Bool} {t : Array Value} {df : List Deferred} {w : World} (d : Tmp) (hi : ops[i]? = some oi) (hd : oi.dst = some d)
    (hs : Region.noSelect ops = true) (hf : Region.free md ops listed i = true) (hr : (Region.ready md ops listed).contains i = true)
    (hQ : ∀ c a w, Q (.panic c) (a.put oi.dst v) w → Q (.panic c) a w) (hy : YieldsIf P ops S oi v { tmps := t, defers := df }) (hS : S w)
    (h : wpAnyH P md ops Q S fuel (listed.setIfInBounds i true) { tmps := t.setIfInBounds d v, defers := df } w) : wpAnyH P md ops Q S (fuel + 1) listed { tmps := t, defers := df } w :=
  wpAnyH_take hi hs hf hr hQ hy hS (by rw [hd]; exact h)
/-- A value's block is as it was, or new. -/
def NewB (w : World) (v v' : Value) : Prop := v'.ownBlock = v.ownBlock ∨ ∃ b, v'.ownBlock = some b ∧ w.heap.size ≤ b
/-- What is left behind a number that was put into a row. -/
def InsP (w0 w w' : World) (v v' : Value) (l : List Nat) : Prop := OwnN w0 w' v' l ∧ Fr (fun k => v.ownBlock = some k) w w' ∧ NewB w v v'
set_option maxHeartbeats 3200000 in
set_option maxRecDepth 100000 in
/-- At the end. -/
theorem GnInsert_end (w0 : World) (A : Option Addr) (n c : Nat) (l : List Nat) (x : Nat) (gb : Nat) (hn : l.length ≤ 1000) (w : World) (h : OwnN w0 w (.slice A n c) l) (hb : Whole w gb 3 (nC [x]).toArray) :
    Calls Try.prog 41 #[.slice A n c, .int .i64 n, .slice (some ⟨gb, 0, none⟩) 1 1] w fun e w' => ∃ v, e = .returned v ∧ InsP w0 w w' (.slice A n c) v (l ++ [x]) := by
  obtain ⟨i0, hi, hz0, hz1, hz2⟩ := info_parts info_int
  have hz3 := zeroI_cells
  have HOw := Lib.hid h
  obtain ⟨A', c', hv, hnc, hcm, -, -⟩ := h.shape
  injection hv with e1 e2 e3
  subst e1; subst e3
  have HNl := Lib.hid e2
  have hn1 : n ≤ 1000 := by omega
  have HSrc : Hid (Src Try.prog 1 23 (.slice (some ⟨gb, 0, none⟩) 1 1) 1 (nC [x]) w) := Lib.hid (Lies.srcN (l := [x]) (by rw [nC_one1]; exact Lies.of_whole hb) rfl 1)
  have s1 : ∀ w, (Instr.slice 23 (.slice A n c) (some (.int .i64 n)) none none).run Try.prog w = .ok (.slice (tlN A c n) (n - n) (c - n)) w := fun w => slice_tlN A n c n (Nat.le_refl _) w
  obtain ⟨A1, hA1⟩ : ∃ A1, tlN A c n = A1 := ⟨_, rfl⟩
  rw [hA1] at s1
  have HBase : Hid (w0.heap.size ≤ w.heap.size) := Lib.hid h.2.size
  clear h hb hnc hcm hA1 e2
  go_enter Try.func41, Try.ntmps41
  go_wp2_with (first
    | (at_builtin; refine wpList_append_row _ rfl (.tmp 23) (.tmp 24) 23 23 rfl w0.heap.size 3 i0 (.int .i64 0) 1 8 Try.underlying23 hi hz0 hz1 hz2 hz3 (.slice A n c) n (nC l) rfl (by have := HOw.out.1; rw [← HNl.out] at this; exact this) (.slice (some ⟨gb, 0, none⟩) 1 1) 1 (nC [x]) rfl HSrc.out (by unfold maxLen; omega) (by omega) HBase.out ?_
       intro v' w4 o1 g1 at1
       have HO4 := Lib.hid (show InsP w0 w w4 (.slice A n c) v' (l ++ [x]) from ⟨HOw.out.grow (by rw [← HNl.out]; exact o1) g1, (Fr.refl _ w).grown g1 (fun k e _ => e), at1.elim .inl (fun e => .inr ⟨_, e, Nat.le_refl _⟩)⟩)
       clear o1 g1 at1))
  go_ret
  exact ⟨_, rfl, HO4.out⟩
set_option maxHeartbeats 3200000 in
set_option maxRecDepth 100000 in
theorem GnInsert_grow (w0 : World) (g n i : Nat) (l : List Nat) (x : Nat) (gb : Nat) (hn : l.length ≤ 1000) (hi : i < l.length) (w : World) (h : OwnN w0 w (.slice (some ⟨g, 0, none⟩) n n) l) (hb : Whole w gb 3 (nC [x]).toArray) :
    Calls Try.prog 41 #[.slice (some ⟨g, 0, none⟩) n n, .int .i64 i, .slice (some ⟨gb, 0, none⟩) 1 1] w fun e w' => ∃ v, e = .returned v ∧ InsP w0 w w' (.slice (some ⟨g, 0, none⟩) n n) v (l.take i ++ x :: l.drop i) := by
  obtain ⟨i0, hi0, hz0, hz1, hz2⟩ := info_parts info_int
  have hz3 := zeroI_cells
  have HOw := Lib.hid h
  obtain ⟨rest, hW, hlen, hnl, hnc, hcm, hbase⟩ := h.row
  have hl := h.lies
  obtain ⟨k, hk⟩ : ∃ k, n + 1 - i = k := ⟨_, rfl⟩
  have hik : i + k = n + 1 := by omega
  have hKz : (n : Int) + 1 - (i : Int) = (k : Int) := by omega
  have hold : (Builtin.firstCells i0.size i (.slice (some ⟨g, 0, none⟩) i n)).run Try.prog w.drew = .ok (nC (l.take i)).toArray w.drew := by
    rw [hz1]
    refine run_firstCells_some w.drew 1 i ⟨g, 0, none⟩ i n (nC (l.take i)) (by rw [Nat.mul_one]; exact takeN_len (by omega)) (fun j v hj => ?_)
    rw [add_off]
    rcases (hl.takeN i).fr (Fr.refl (fun _ => False) w).drew (fun _ _ e => e) with h0 | ⟨b, o, hA, hc⟩
    · rw [h0] at hj; simp at hj
    · cases hA; exact hc j v hj
  have hrz : ∀ ty, (Builtin.append_ #[23, 3] ty #[.slice (some ⟨g, 0, none⟩) i n, .int .i64 ((n : Int) + 1 - (i : Int))]).run Try.prog w =
      .ok (.slice (some ⟨w.heap.size, 0, none⟩) (i + k) (grownCap w (i + k) n 3)) (w.drew.alloc (.cells ((nC (l.take i)).toArray ++ Builtin.zeroCells (Value.int .i64 0).cells k ++ Builtin.zeroCells (Value.int .i64 0).cells (grownCap w (i + k) n 3 - (i + k))) 3)) := fun ty => by
    rw [hKz]
    exact Lib.run_append_grow_zeros (P := Try.prog) w 23 3 ty 3 i0 (.int .i64 0) .i64 .i64 Try.underlying23 Try.underlying3 hi0 hz0 (some ⟨g, 0, none⟩) i n (nC (l.take i)) hold k (by omega) (by rw [hz1]; decide) (by omega) (by omega) (by rw [hz2]; omega) (by rw [hz2]; exact growslice_fits (by omega) (by omega))
  have hge := grownCap_ge w (i + k) n 3
  have hcm2 := grownCap_le_maxLen w (i + k) n 3 (by unfold maxLen; omega)
  rw [hik] at hrz hge hcm2
  obtain ⟨C, hC⟩ : ∃ C, grownCap w (n + 1) n 3 = C := ⟨_, rfl⟩
  rw [hC] at hrz hge hcm2
  obtain ⟨R0, hR0⟩ : ∃ R0 : List Value, (Builtin.zeroCells (Value.int .i64 0).cells k ++ Builtin.zeroCells (Value.int .i64 0).cells (C - (n + 1))).toList = R0 := ⟨_, rfl⟩
  have hRl : R0.length = k + (C - (n + 1)) := by
    rw [← hR0, Array.toList_append, List.length_append, Array.length_toList, Array.length_toList, size_zeroCells, size_zeroCells, hz3, Nat.mul_one, Nat.mul_one]
  have hROW : (nC (l.take i)).toArray ++ Builtin.zeroCells (Value.int .i64 0).cells k ++ Builtin.zeroCells (Value.int .i64 0).cells (C - (n + 1)) = (nC (l.take i) ++ R0).toArray := by
    apply Array.toList_inj.1
    rw [← hR0]
    simp
  rw [hROW] at hrz
  obtain ⟨w1, hw1⟩ : ∃ w1, w.drew.alloc (.cells (nC (l.take i) ++ R0).toArray 3) = w1 := ⟨_, rfl⟩
  rw [hw1] at hrz
  have HW1 := Lib.hid (show Whole w1 w.heap.size 3 (nC (l.take i) ++ R0).toArray from by rw [← hw1]; exact Whole.new w.drew 3 _)
  have HF1 := Lib.hid (show Fr (fun _ => False) w w1 from by rw [← hw1]; exact (Fr.refl (fun _ => False) w).drew.alloc _)
  have hgl := Whole.lt hW
  obtain ⟨B, hB⟩ : ∃ B, w.heap.size = B := ⟨_, rfl⟩
  rw [hB] at hrz HW1 hgl
  have HGl := Lib.hid hgl
  have HBB := Lib.hid hB
  have hTk := takeN_len (l := l) (i := i) (by omega)
  have HTk := Lib.hid hTk
  have s1 : ∀ w, (Instr.slice 23 (.slice (some ⟨g, 0, none⟩) n n) (some (.int .i64 i)) none none).run Try.prog w = .ok (.slice (some ⟨g, i, none⟩) (n - i) (n - i)) w := fun w => by
    have := slice_tlN (some ⟨g, 0, none⟩) n n i (by omega) w
    rwa [tlN_some g n i (by omega)] at this
  have s2 : ∀ w, (Instr.slice 23 (.slice (some ⟨g, 0, none⟩) n n) none (some (.int .i64 i)) none).run Try.prog w = .ok (.slice (some ⟨g, 0, none⟩) i n) w := fun w => slice_hdN _ (.inr ⟨_, _, rfl⟩) n n i (by omega) w
  have s3 : ∀ w, (Instr.slice 23 (.slice (some ⟨B, 0, none⟩) (n + 1) C) (some (.int .i64 i)) none none).run Try.prog w = .ok (.slice (some ⟨B, i, none⟩) k (C - i)) w := fun w => by
    have := slice_tlN (some ⟨B, 0, none⟩) (n + 1) C i (by omega) w
    rwa [tlN_some B C i (by omega), hk] at this
  have s4 : ∀ w, (Instr.slice 23 (.slice (some ⟨B, 0, none⟩) (n + 1) C) (some (.int .i64 ((i : Int) + 1))) none none).run Try.prog w = .ok (.slice (some ⟨B, (i + 1), none⟩) (n - i) (C - (i + 1))) w := fun w => by
    have := slice_tlN (some ⟨B, 0, none⟩) (n + 1) C (i + 1) (by omega) w
    rw [tlN_some B C (i + 1) (by omega)] at this
    rwa [show ((i + 1 : Nat) : Int) = (i : Int) + 1 by omega, show n + 1 - (i + 1) = n - i by omega] at this
  have k1 : IntKind.i64.wrap ((n : Int) + 1) = (n : Int) + 1 := wrap_nat1 n (by omega)
  have k2 : IntKind.i64.wrap ((n : Int) + 1 - (i : Int)) = (n : Int) + 1 - (i : Int) := by rw [IntKind.wrap_i64]; omega
  have k3 : IntKind.i64.wrap ((i : Int) + 1) = (i : Int) + 1 := wrap_nat1 i (by omega)
  have hne : ¬ ((i : Int) = (n : Int)) := by omega
  have hgt : (n : Int) < (n : Int) + 1 := by omega
  have HIK := Lib.hid hik
  have HNl := Lib.hid hnl
  have HLt := Lib.hid hi
  have HL := Lib.hid hl
  have HGe := Lib.hid hge
  have HCm := Lib.hid hcm2
  have HRl := Lib.hid hRl
  have HBb := Lib.hid hb
  have HRZ := Lib.hid hrz
  clear hrz hl hW hlen hold hB hC hR0 hROW hgl hTk hk hik hKz hbase hcm hnc hnl h hb hz0 hz1 hz2 hz3 hge hcm2 hRl hi0 hw1 hi
  go_enter Try.func41, Try.ntmps41
  go_upto_region 11 with (first
    | (at_builtin; refine wpList_append_to rfl (.tmp 34) (.tmp 39) 23 3 rfl (.slice (some ⟨g, 0, none⟩) i n) (.int .i64 ((n : Int) + 1 - (i : Int))) (.slice (some ⟨B, 0, none⟩) (n + 1) C) w1 rfl rfl HRZ.out ?_; have M1 := True.intro)
    | (have _ := M1; refine wpList_copyK rfl (.tmp 43) (.tmp 44) 23 23 rfl 3 1 Try.underlying23 size_int B (i) k (C - i) gb 0 1 1 rfl rfl _ 3 HW1.out (nC [x]) 1 (by have := HIK.out; have := HLt.out; have := HNl.out; simp only [Nat.min_def]; split <;> omega) (by rw [nC_len1]) (fun j v hj => by rw [Nat.zero_add, (HBb.out.fr HF1.out (fun e => e)).cell, List.getElem?_toArray]; exact hj) (by rw [List.size_toArray, List.length_append, HTk.out, nC_len1, HRl.out]; have := HIK.out; have := HLt.out; have := HNl.out; omega) (nC_oneX x) ?_
       intro w2 hw2 hf2
       have HW2 := Lib.hid hw2
       have HF2 := Lib.hid hf2
       clear hw2 hf2))
  have hx33 : (nC [x]).length = 1 := nC_len1 x
  have hW2 := HW2.out
  rw [show (nC (l.take i) ++ R0).toArray.toList = nC (l.take i) ++ R0 from rfl, splice_at _ _ _ _ HTk.out, ← List.append_assoc] at hW2
  obtain ⟨R1, hR1⟩ : ∃ R1, R0.drop (nC [x]).length = R1 := ⟨_, rfl⟩
  have HR1l : Hid (R1.length = R0.length - 1) := Lib.hid (by rw [← hR1, List.length_drop, hx33])
  rw [hR1] at hW2
  obtain ⟨P2, hP2⟩ : ∃ P2, nC (l.take i) ++ nC [x] = P2 := ⟨_, rfl⟩
  have HP2 := Lib.hid hP2
  have HP2l : Hid (P2.length = (i + 1)) := Lib.hid (by rw [← hP2, List.length_append, HTk.out, hx33])
  rw [hP2] at hW2
  have HW2' := Lib.hid hW2
  have HSr : Hid (∀ w', Fr (fun j => j = B) w1 w' → ∀ j v, (nC (l.drop i))[j]? = some v → w'.cell? ⟨g, i + j, none⟩ = some v) := Lib.hid (fun w' f j v hj => by
    rw [nC_drop, List.getElem?_drop] at hj
    rcases HL.out with h0 | ⟨b, o, hA, hc⟩
    · rw [h0] at hj; simp at hj
    · cases hA
      have h1 := HF1.out.cell (hc _ _ hj) (fun e => e)
      have h2 := f.cell h1 (fun e => by have := HGl.out; have h3 : g = B := e; omega)
      rwa [Nat.zero_add] at h2)
  have HDl : Hid ((nC (l.drop i)).length = (n - i)) := Lib.hid (by rw [nC_len, List.length_drop, HNl.out])
  have HCn : Hid (n + 1 ≤ C) := Lib.hid HGe.out
  have HIn : Hid (i < n) := Lib.hid (by have := HLt.out; have := HNl.out; omega)
  have HKk : Hid (k = n + 1 - i) := Lib.hid (by have := HIK.out; omega)
  have HFc := Lib.hid (show Fr (fun j => j = B) w2 w2.drew from (Fr.refl _ w2).drew)
  have HSq := Lib.hid (show Fr (fun j => j = B) w2 w2.drew from HFc.out)
  clear hW2 hR1 hP2 hx33
  refine wp_region_held (S := fun w' => Fr (fun j => j = B) w2 w') (by kernel_rfl) ?_
  change wpAnyH _ _ _ _ _ _ _ _ (World.drew w2)
  have HWc := Lib.hid (show Whole w2.drew B 3 (P2 ++ R1).toArray from HW2'.out.fr (Fr.refl (fun _ => False) w2).drew (fun e => e))
  obtain ⟨wc, hwc⟩ : ∃ wc, w2.drew = wc := ⟨_, rfl⟩
  rw [hwc] at HFc HSq HWc ⊢
  clear hwc
  (
    refine wpAnyH_takeM (i := 0) (v := .slice (some ⟨B, 0, none⟩) (n + 1) C) 46 rfl rfl (by kernel_rfl) (by kernel_rfl) (by kernel_rfl) (fun _ _ _ h => h) (.inl ⟨by rfl, ?_⟩) HSq.out ?_
    · intro wq hq
      go_simp)
  (
    refine wpAnyH_takeM (i := 1) (v := .int .i64 i) 47 rfl rfl (by kernel_rfl) (by kernel_rfl) (by kernel_rfl) (fun _ _ _ h => h) (.inl ⟨by rfl, ?_⟩) HSq.out ?_
    · intro wq hq
      go_simp)
  (
    refine wpAnyH_takeM (i := 2) (v := .int .i64 1) 48 rfl rfl (by kernel_rfl) (by kernel_rfl) (by kernel_rfl) (fun _ _ _ h => h) (.inl ⟨by rfl, ?_⟩) HSq.out ?_
    · intro wq hq
      go_simp)
  (
    refine wpAnyH_takeM (i := 3) (v := .int .i64 ((i : Int) + 1)) 49 rfl rfl (by kernel_rfl) (by kernel_rfl) (by kernel_rfl) (fun _ _ _ h => h) (.inl ⟨by rfl, ?_⟩) HSq.out ?_
    · intro wq hq
      go_simp)
  (
    refine wpAnyH_takeM (i := 4) (v := .slice (some ⟨B, (i + 1), none⟩) (n - i) (C - (i + 1))) 50 rfl rfl (by kernel_rfl) (by kernel_rfl) (by kernel_rfl) (fun _ _ _ h => h) (.inl ⟨by rfl, ?_⟩) HSq.out ?_
    · intro wq hq
      go_simp)
  (
    refine wpAnyH_takeM (i := 5) (v := .slice (some ⟨g, 0, none⟩) n n) 51 rfl rfl (by kernel_rfl) (by kernel_rfl) (by kernel_rfl) (fun _ _ _ h => h) (.inl ⟨by rfl, ?_⟩) HSq.out ?_
    · intro wq hq
      go_simp)
  (
    refine wpAnyH_takeM (i := 6) (v := .int .i64 i) 52 rfl rfl (by kernel_rfl) (by kernel_rfl) (by kernel_rfl) (fun _ _ _ h => h) (.inl ⟨by rfl, ?_⟩) HSq.out ?_
    · intro wq hq
      go_simp)
  (
    refine wpAnyH_takeM (i := 7) (v := .slice (some ⟨g, i, none⟩) (n - i) (n - i)) 53 rfl rfl (by kernel_rfl) (by kernel_rfl) (by kernel_rfl) (fun _ _ _ h => h) (.inl ⟨by rfl, ?_⟩) HSq.out ?_
    · intro wq hq
      go_simp)
  (
    try simp only [List.setIfInBounds_toArray, List.set_cons_succ, List.set_cons_zero]
    refine wpAnyH_all (rs := [8]) (by kernel_rfl) (by simp) ?_
    intro i hi
    simp only [List.mem_cons, List.not_mem_nil, or_false] at hi
    subst hi)
  refine wpOp_step rfl (fun K hK => ?_)
  refine wp_copyK (.tmp 50) (.tmp 53) 23 23 (by rfl) 3 1 Try.underlying23 size_int B ((i + 1)) (n - i) (C - (i + 1)) g (i) (n - i) (n - i) (by rfl) (by rfl) _ 3 HWc.out (nC (l.drop i)) (n - i) (by simp) (by rw [Nat.mul_one]; exact HDl.out) (HSr.out wc (HF2.out.trans HFc.out (fun _ _ e => e))) (by rw [List.size_toArray, List.length_append, HDl.out, HP2l.out, HR1l.out, HRl.out]; have h1 := HCn.out; have h2 := HIn.out; have h3 := HKk.out; omega) (nC_one _) ?_
  intro w4 hw4 hf4
  have hW4 := hw4
  rw [show (P2 ++ R1).toArray.toList = P2 ++ R1 from rfl, splice_at _ _ _ _ HP2l.out, ← List.append_assoc, ← HP2.out, ← nC_put] at hW4
  have HW4 := Lib.hid hW4
  have HF4 := Lib.hid (HSq.out.trans hf4 (fun _ _ e => e))
  have HFz := Lib.hid (show Fr (fun _ => False) w w4 from (HF1.out.trans (HF2.out.trans HF4.out (fun _ _ e => e)) (T := fun j => j = B) (fun j hj e => by have := HBB.out; omega)))
  clear hw4 hf4 hW4
  refine hK _ _ ⟨HF4.out, ?_⟩
  clear hK K
  refine wpAnyH_done (by kernel_rfl) ?_ _
  go_wp2_with fail
  go_ret
  refine ⟨_, rfl, ?_⟩
  have hll : (l.take i ++ x :: l.drop i).length = n + 1 := by rw [List.length_append, List.length_cons, List.length_take, List.length_drop]; have := HLt.out; have := HNl.out; omega
  have := OwnN.of_row (w0 := w0) (c := C) HW4.out (by
    rw [List.length_append, nC_len, hll, List.length_drop, HDl.out, HR1l.out, HRl.out]
    have h1 := HCn.out; have h2 := HIn.out; have h3 := HKk.out
    omega) (by rw [hll]; exact HCn.out) HCm.out (by have := HOw.out.2.size; have := HBB.out; omega) (HOw.out.2.trans HFz.out (fun _ _ e => e))
  rw [hll] at this
  exact ⟨this, HFz.out.mono (fun _ _ e => e.elim), .inr ⟨B, rfl, by have := HBB.out; omega⟩⟩
set_option maxHeartbeats 3200000 in
set_option maxRecDepth 100000 in
theorem GnInsert_room (w0 : World) (g n c i : Nat) (l : List Nat) (x : Nat) (gb : Nat) (hn : l.length ≤ 1000) (hi : i < l.length) (hr : n < c) (w : World) (h : OwnN w0 w (.slice (some ⟨g, 0, none⟩) n c) l) (hb : Whole w gb 3 (nC [x]).toArray) (hg : gb ≠ g) :
    Calls Try.prog 41 #[.slice (some ⟨g, 0, none⟩) n c, .int .i64 i, .slice (some ⟨gb, 0, none⟩) 1 1] w fun e w' => ∃ v, e = .returned v ∧ InsP w0 w w' (.slice (some ⟨g, 0, none⟩) n c) v (l.take i ++ x :: l.drop i) := by
  have HOw := Lib.hid h
  obtain ⟨rest, hW, hlen, hnl, hnc, hcm, hbase⟩ := h.row
  have hl := h.lies
  have hrl : rest.length = (c - n) := by rw [List.length_append, nC_len, ← hnl] at hlen; omega
  obtain ⟨k, hk⟩ : ∃ k, n + 1 - i = k := ⟨_, rfl⟩
  have s1 : ∀ w, (Instr.slice 23 (.slice (some ⟨g, 0, none⟩) n c) (some (.int .i64 i)) none none).run Try.prog w = .ok (.slice (some ⟨g, i, none⟩) (n - i) (c - i)) w := fun w => by
    have := slice_tlN (some ⟨g, 0, none⟩) n c i (by omega) w
    rwa [tlN_some g c i (by omega)] at this
  have s2 : ∀ w, (Instr.slice 23 (.slice (some ⟨g, 0, none⟩) n c) none (some (.int .i64 ((n : Int) + 1))) none).run Try.prog w = .ok (.slice (some ⟨g, 0, none⟩) (n + 1) c) w := fun w => by
    have := slice_hdN (some ⟨g, 0, none⟩) (.inr ⟨_, _, rfl⟩) n c (n + 1) (by omega) w
    rwa [show ((n + 1 : Nat) : Int) = (n : Int) + 1 by omega] at this
  have s3 : ∀ w, (Instr.slice 23 (.slice (some ⟨g, 0, none⟩) (n + 1) c) (some (.int .i64 i)) none none).run Try.prog w = .ok (.slice (some ⟨g, i, none⟩) k (c - i)) w := fun w => by
    have := slice_tlN (some ⟨g, 0, none⟩) (n + 1) c i (by omega) w
    rwa [tlN_some g c i (by omega), hk] at this
  have s4 : ∀ w, (Instr.slice 23 (.slice (some ⟨g, 0, none⟩) (n + 1) c) (some (.int .i64 ((i : Int) + 1))) none none).run Try.prog w = .ok (.slice (some ⟨g, (i + 1), none⟩) (n - i) (c - (i + 1))) w := fun w => by
    have := slice_tlN (some ⟨g, 0, none⟩) (n + 1) c (i + 1) (by omega) w
    rw [tlN_some g c (i + 1) (by omega)] at this
    rwa [show ((i + 1 : Nat) : Int) = (i : Int) + 1 by omega, show n + 1 - (i + 1) = n - i by omega] at this
  have hov := Lib.run_overlaps_apart (P := Try.prog) w 23 4 3 Try.underlying23 1 (fun _ => by kernel_rfl) ⟨gb, 0, none⟩ ⟨g, (i + 1), none⟩ 1 1 (n - i) (c - (i + 1)) hg 3 3 (nC [x]).toArray.size (nC l ++ rest).toArray.size
    (by unfold Whole at hb; simp [World.shape?, hb]) (by unfold Whole at hW; simp [World.shape?, hW]) (by rw [List.size_toArray, hlen]; omega) (hb.frozen 0) (hb.frozen _)
  have HOv := Lib.hid hov
  have k1 : IntKind.i64.wrap ((n : Int) + 1) = (n : Int) + 1 := wrap_nat1 n (by omega)
  have k3 : IntKind.i64.wrap ((i : Int) + 1) = (i : Int) + 1 := wrap_nat1 i (by omega)
  have hne : ¬ ((i : Int) = (n : Int)) := by omega
  have hgt : ¬ ((c : Int) < (n : Int) + 1) := by omega
  -- the row in pieces
  have hp1 : nC l ++ rest = nC (l.take (i + 1)) ++ (nC (l.drop (i + 1)) ++ rest) := by rw [← List.append_assoc, ← nC_append, List.take_append_drop]
  have HTk := Lib.hid (takeN_len (l := l) (i := i) (by omega))
  have HTk1 := Lib.hid (takeN_len (l := l) (i := i + 1) (by omega))
  have HDl : Hid ((nC (l.drop i)).length = (n - i)) := Lib.hid (by rw [nC_len, List.length_drop, hnl])
  have HDl1 : Hid ((nC (l.drop (i + 1))).length = (n - (i + 1))) := Lib.hid (by rw [nC_len, List.length_drop, hnl])
  have HP3 : Hid (nC (l.take (i + 1)) = nC (l.take i) ++ nC [l.getD i 0]) := Lib.hid (by rw [nat_snoc l i hi, nC_append, nC_one1])
  rw [hp1] at hW
  have HW := Lib.hid hW
  have HSr : Hid (∀ w', Fr (fun _ => False) w w' → ∀ j v, (nC (l.drop i))[j]? = some v → w'.cell? ⟨g, i + j, none⟩ = some v) := Lib.hid (fun w' f j v hj => by
    rw [nC_drop, List.getElem?_drop] at hj
    rcases hl with h0 | ⟨b, o, hA, hc⟩
    · rw [h0] at hj; simp at hj
    · cases hA
      have h1 := f.cell (hc _ _ hj) (fun e => e)
      rwa [Nat.zero_add] at h1)
  have HNl := Lib.hid hnl
  have HLt := Lib.hid hi
  have HR := Lib.hid hr
  have HCm := Lib.hid hcm
  have HBase := Lib.hid hbase
  have HRl := Lib.hid hrl
  have HKk : Hid (k = n + 1 - i) := Lib.hid hk.symm
  have HBb := Lib.hid hb
  have HGg := Lib.hid hg
  clear hl hW hlen hbase hcm hnc hnl h hb hi hr hrl hg hk hp1 hov
  go_enter Try.func41, Try.ntmps41
  go_upto_region 14 with fail
  go_wp2
  rw [run_callFunc_extern Try.func44 (by kernel_rfl) (by kernel_rfl) (by kernel_rfl) (e := Extern.SlicesOverlaps.overlaps #[23, 23] #[4]) (by kernel_rfl), HOv.out]
  simp only [Result.andThen]
  rw [Oper.upon_value]
  go_upto_region 15 with fail
  have HFc := Lib.hid (show Fr (fun _ => False) w w.drew from (Fr.refl _ w).drew)
  have HSq := Lib.hid (show Fr (fun j => j = g) w w.drew from HFc.out.mono (fun _ _ e => e.elim))
  refine wp_region_held (S := fun w' => Fr (fun j => j = g) w w') (by kernel_rfl) ?_
  change wpAnyH _ _ _ _ _ _ _ _ (World.drew w)
  have HWc := Lib.hid (show Whole w.drew g 3 (nC (l.take (i + 1)) ++ (nC (l.drop (i + 1)) ++ rest)).toArray from HW.out.fr (Fr.refl (fun _ => False) w).drew (fun e => e))
  obtain ⟨wc, hwc⟩ : ∃ wc, w.drew = wc := ⟨_, rfl⟩
  rw [hwc] at HFc HSq HWc ⊢
  clear hwc
  (
    refine wpAnyH_takeM (i := 0) (v := .slice (some ⟨g, 0, none⟩) (n + 1) c) 69 rfl rfl (by kernel_rfl) (by kernel_rfl) (by kernel_rfl) (fun _ _ _ h => h) (.inl ⟨by rfl, ?_⟩) HSq.out ?_
    · intro wq hq
      go_simp)
  (
    refine wpAnyH_takeM (i := 1) (v := .int .i64 i) 70 rfl rfl (by kernel_rfl) (by kernel_rfl) (by kernel_rfl) (fun _ _ _ h => h) (.inl ⟨by rfl, ?_⟩) HSq.out ?_
    · intro wq hq
      go_simp)
  (
    refine wpAnyH_takeM (i := 2) (v := .int .i64 1) 71 rfl rfl (by kernel_rfl) (by kernel_rfl) (by kernel_rfl) (fun _ _ _ h => h) (.inl ⟨by rfl, ?_⟩) HSq.out ?_
    · intro wq hq
      go_simp)
  (
    refine wpAnyH_takeM (i := 3) (v := .int .i64 ((i : Int) + 1)) 72 rfl rfl (by kernel_rfl) (by kernel_rfl) (by kernel_rfl) (fun _ _ _ h => h) (.inl ⟨by rfl, ?_⟩) HSq.out ?_
    · intro wq hq
      go_simp)
  (
    refine wpAnyH_takeM (i := 4) (v := .slice (some ⟨g, (i + 1), none⟩) (n - i) (c - (i + 1))) 73 rfl rfl (by kernel_rfl) (by kernel_rfl) (by kernel_rfl) (fun _ _ _ h => h) (.inl ⟨by rfl, ?_⟩) HSq.out ?_
    · intro wq hq
      go_simp)
  (
    refine wpAnyH_takeM (i := 5) (v := .slice (some ⟨g, 0, none⟩) (n + 1) c) 74 rfl rfl (by kernel_rfl) (by kernel_rfl) (by kernel_rfl) (fun _ _ _ h => h) (.inl ⟨by rfl, ?_⟩) HSq.out ?_
    · intro wq hq
      go_simp)
  (
    refine wpAnyH_takeM (i := 6) (v := .int .i64 i) 75 rfl rfl (by kernel_rfl) (by kernel_rfl) (by kernel_rfl) (fun _ _ _ h => h) (.inl ⟨by rfl, ?_⟩) HSq.out ?_
    · intro wq hq
      go_simp)
  (
    refine wpAnyH_takeM (i := 7) (v := .slice (some ⟨g, i, none⟩) k (c - i)) 76 rfl rfl (by kernel_rfl) (by kernel_rfl) (by kernel_rfl) (fun _ _ _ h => h) (.inl ⟨by rfl, ?_⟩) HSq.out ?_
    · intro wq hq
      go_simp)
  (
    try simp only [List.setIfInBounds_toArray, List.set_cons_succ, List.set_cons_zero]
    refine wpAnyH_all (rs := [8]) (by kernel_rfl) (by simp) ?_
    intro i hi
    simp only [List.mem_cons, List.not_mem_nil, or_false] at hi
    subst hi)
  refine wpOp_step rfl (fun K hK => ?_)
  refine wp_copyK (.tmp 73) (.tmp 76) 23 23 (by rfl) 3 1 Try.underlying23 size_int g ((i + 1)) (n - i) (c - (i + 1)) g (i) k (c - i) (by rfl) (by rfl) _ 3 HWc.out (nC (l.drop i)) (n - i) (by have h1 := HKk.out; have h2 := HLt.out; have h3 := HNl.out; simp only [Nat.min_def]; split <;> omega) (by rw [Nat.mul_one]; exact HDl.out) (HSr.out wc HFc.out) (by rw [List.size_toArray, List.length_append, List.length_append, HDl.out, HTk1.out, HDl1.out, HRl.out]; have h1 := HR.out; have h2 := HLt.out; have h3 := HNl.out; omega) (nC_one _) ?_
  intro w2 hw2 hf2
  have hW2 := hw2
  rw [show (nC (l.take (i + 1)) ++ (nC (l.drop (i + 1)) ++ rest)).toArray.toList = nC (l.take (i + 1)) ++ (nC (l.drop (i + 1)) ++ rest) from rfl, splice_at _ _ _ _ HTk1.out, HP3.out, List.append_assoc] at hW2
  obtain ⟨R2, hR2⟩ : ∃ R2, (nC (l.drop (i + 1)) ++ rest).drop (nC (l.drop i)).length = R2 := ⟨_, rfl⟩
  have HR2 : Hid (R2.length = (n - (i + 1)) + (c - n) - (n - i)) := Lib.hid (by rw [← hR2, List.length_drop, List.length_append, HDl1.out, HRl.out, HDl.out])
  rw [hR2] at hW2
  have HW2 := Lib.hid hW2
  have HF2 := Lib.hid (HSq.out.trans hf2 (fun _ _ e => e))
  have HB2 := Lib.hid (show Whole w2 gb 3 (nC [x]).toArray from HBb.out.fr HF2.out HGg.out)
  clear hw2 hf2 hW2 hR2
  refine hK _ _ ⟨HF2.out, ?_⟩
  clear hK K
  refine wpAnyH_done (by kernel_rfl) ?_ _
  have hx33 : (nC [x]).length = 1 := nC_len1 x
  have HX33 := Lib.hid hx33
  have HY33 : Hid ((nC [l.getD i 0]).length = 1) := Lib.hid (nC_len1 _)
  clear hx33
  go_wp2_with (refine wpList_copyK rfl (.tmp 80) (.tmp 81) 23 23 rfl 3 1 Try.underlying23 size_int g (i) k (c - i) gb 0 1 1 rfl rfl _ 3 HW2.out (nC [x]) 1 (by have h1 := HKk.out; have h2 := HLt.out; have h3 := HNl.out; simp only [Nat.min_def]; split <;> omega) (by rw [nC_len1]) (fun j v hj => by rw [Nat.zero_add, HB2.out.cell, List.getElem?_toArray]; exact hj) (by rw [List.size_toArray, List.length_append, List.length_append, HTk.out, HX33.out, HY33.out]; omega) (nC_oneX x) ?_
               intro w3 hw3 hf3
               have HW3 := Lib.hid hw3
               have HF3 := Lib.hid (HF2.out.trans hf3 (fun _ _ e => e))
               clear hw3 hf3)
  go_ret
  refine ⟨_, rfl, ?_⟩
  have hW3 := HW3.out
  rw [splice_at _ _ _ _ HTk.out, HX33.out, ← HY33.out, List.drop_left, ← List.append_assoc, ← List.append_assoc, ← nC_put] at hW3
  have hll : (l.take i ++ x :: l.drop i).length = n + 1 := by rw [List.length_append, List.length_cons, List.length_take, List.length_drop]; have := HLt.out; have := HNl.out; omega
  have := OwnN.of_row (w0 := w0) (c := c) hW3 (by
    rw [List.length_append, nC_len, hll, HR2.out]
    have h1 := HR.out; have h2 := HLt.out; have h3 := HNl.out
    omega) (by rw [hll]; exact HR.out) HCm.out HBase.out (HOw.out.2.trans HF3.out (fun j hj e => by have := HBase.out; omega))
  rw [hll] at this
  exact ⟨this, HF3.out.mono (fun j _ e => by rw [show j = g from e]; rfl), .inl rfl⟩
/-- In general. -/
theorem GnInsert_any (w0 : World) (v : Value) (l : List Nat) (x : Nat) (i gb : Nat) (hn : l.length ≤ 1000) (hi : i ≤ l.length) (w : World) (h : OwnN w0 w v l) (hb : Whole w gb 3 (nC [x]).toArray) (hg : v.ownBlock ≠ some gb) :
    Calls Try.prog 41 #[v, .int .i64 i, .slice (some ⟨gb, 0, none⟩) 1 1] w fun e w' => ∃ v', e = .returned v' ∧ InsP w0 w w' v v' (l.take i ++ x :: l.drop i) := by
  obtain ⟨A, c, hv, hc, hm, hA, _⟩ := h.shape
  subst hv
  rcases Nat.lt_or_ge i l.length with h1 | h1
  · rcases own_shape h.1 with ⟨_, _, h0⟩ | ⟨g, cap, hv, _⟩
    · rw [nC_nil h0] at h1; simp at h1
    · injection hv with e1 e2 e3
      subst e1; subst e3
      rcases Nat.lt_or_ge l.length c with h2 | h2
      · exact GnInsert_room w0 g l.length c i l x gb hn h1 h2 w h hb (fun e => hg (by rw [e]; rfl))
      · obtain rfl : c = l.length := by omega
        exact GnInsert_grow w0 g l.length i l x gb hn h1 w h hb
  · obtain rfl : i = l.length := by omega
    rw [List.take_length, List.drop_length]
    exact GnInsert_end w0 A l.length c l x gb hn w h hb
end Go.Proofs.Ytpaigmmpihcdaaa
/- What is proved: a painting in memory; its queue's put and next; marks asked; a new painting; nodes marked. Conditions: the painting is the call's own; at most 128 nodes. -/
namespace Go.Proofs.Ytpaigmmpihcdaaa
open Go.RowKit Go.Shelf
set_option linter.unusedVariables false
section
variable {w0 w w' : World} {g gm : Nat} {gv : Value} {N : Nat} {M : Nat → Nat} {q : Value} {l : List Nat}
theorem OwnN.set (h : OwnN w0 w q l) {k : Nat} (hk : w0.heap.size ≤ k) (hq : q.ownBlock ≠ some k) (i : Nat) (u : Value) : OwnN w0 (w.setCell ⟨k, i, none⟩ u) q l := by
  have f : Fr (fun j => j = k) w (w.setCell ⟨k, i, none⟩ u) := (Fr.refl (fun j => j = k) w).setCell (p := ⟨k, i, none⟩) (fun _ => rfl) u
  exact ⟨own_fr h.1 f (fun j hj e => hq (by rw [← (show j = k from e)]; exact hj)), h.2.trans f (fun j hj e => by have : j = k := e; omega)⟩
end
end Go.Proofs.Ytpaigmmpihcdaaa
/- What is proved: marks are handed up until none is left, by the program; which nodes have some marks and none of others. Conditions: the painting is the call's own, the graph right, at most 128 nodes. -/
namespace Go.Proofs.Ytpaigmmpihcdaaa
open Go.RowKit Go.Shelf
set_option linter.unusedVariables false
/-- A graph that is right, plainly. -/
structure RightG (G : List Nd) : Prop where
  len : G.length ≤ 128
  dn : Dn (prG G) G.length
  few : ∀ n, n < G.length → (prG G n).length ≤ 6
  nat : ∀ (n : Nat) (h : n < G.length), zC G[n].ps = nC (prG G n) ∧ G[n].ps.length = (prG G n).length
end Go.Proofs.Ytpaigmmpihcdaaa
/- What is proved: Range, Heads, Bases, Is, Above of the program. Conditions: the cells are there; at most a thousand numbers a list. -/
namespace Go.Proofs.Ytpaigmmpihcdaaa
open Go.RowKit Go.Shelf
set_option linter.unusedVariables false
/-- Numbers that are nodes' as natural ones. -/
def nz (l : List Int) : List Nat := l.map Int.toNat
theorem nz_len (l : List Int) : (nz l).length = l.length := by simp [nz]
theorem nz_zC {l : List Int} (h : ∀ z ∈ l, 0 ≤ z) : zC l = nC (nz l) := by
  unfold zC nC nz
  rw [List.map_map]
  apply List.map_congr_left
  intro z hz
  have := h z hz
  simp only [Function.comp]
  congr 1
  omega
theorem badZ_no {N : Nat} {z : Int} (h : badZ N z = false) : 0 ≤ z ∧ z.toNat < N := by
  unfold badZ at h
  rw [Bool.or_eq_false_iff, decide_eq_false_iff_not, decide_eq_false_iff_not] at h
  omega
theorem nz_lt {N : Nat} {l : List Int} (h : ∀ z ∈ l, badZ N z = false) : ∀ x ∈ nz l, x < N := by
  intro x hx
  obtain ⟨z, hz, rfl⟩ := List.mem_map.1 hx
  exact (badZ_no (h z hz)).2
theorem nodE_zero {G : List Nd} {l : List Int} (h : nodE G l = 0) : okG G = true ∧ ∀ z ∈ l, badZ G.length z = false := by
  unfold nodE at h
  by_cases e : okG G = true
  · rw [if_pos e] at h
    refine ⟨e, fun z hz => ?_⟩
    rw [Bool.eq_false_iff]
    intro hb
    have : l.any (badZ G.length) = true := List.any_eq_true.2 ⟨z, hz, hb⟩
    rw [if_pos this] at h
    exact absurd h (by decide)
  · rw [if_neg e] at h; exact absurd h (by decide)
theorem right_of {G : List Nd} (h : okG G = true) : RightG G := by
  unfold okG at h
  rw [Bool.and_eq_true, decide_eq_true_eq, Bool.not_eq_true', List.any_eq_false] at h
  have key : ∀ n (hn : n < G.length), G[n].ps.length ≤ 6 ∧ ∀ z ∈ G[n].ps, 0 ≤ z ∧ z < (n : Int) := by
    intro n hn
    have h1 := h.2 n (List.mem_range.2 hn)
    rw [getD_nd G n hn] at h1
    have h2 : okN n G[n] = true := by simpa using h1
    unfold okN at h2
    rw [Bool.and_eq_true, Bool.and_eq_true, Bool.and_eq_true, decide_eq_true_eq, Bool.not_eq_true', List.any_eq_false] at h2
    refine ⟨h2.1, fun z hz => ?_⟩
    obtain ⟨i, hi, rfl⟩ := List.getElem_of_mem hz
    have h3 := h2.2.2.2 i (List.mem_range.2 hi)
    have h4 : badP n G[n].ps i = false := by simpa using h3
    unfold badP at h4
    rw [List.getD_eq_getElem?_getD, List.getElem?_eq_getElem hi, Option.getD_some, Bool.or_eq_false_iff, Bool.or_eq_false_iff, decide_eq_false_iff_not, decide_eq_false_iff_not] at h4
    omega
  refine ⟨h.1, fun n hn p hp => ?_, fun n hn => ?_, fun n hn => ⟨?_, ?_⟩⟩
  · unfold prG at hp
    rw [getD_nd G n hn] at hp
    obtain ⟨z, hz, rfl⟩ := List.mem_map.1 hp
    have := (key n hn).2 z hz
    omega
  · unfold prG
    rw [getD_nd G n hn, List.length_map]
    exact (key n hn).1
  · unfold prG
    rw [getD_nd G n hn]
    exact nz_zC (fun z hz => ((key n hn).2 z hz).1)
  · unfold prG
    rw [getD_nd G n hn, List.length_map]
theorem Mk8.zero : Mk8 (fun _ => 0) := fun _ => (by decide : 0 < 8)
theorem OwnN.base {w0 w1 w2 : World} {v : Value} {l : List Nat} (h : OwnN w1 w2 v l) (f : Fr (fun _ => False) w0 w1) : OwnN w0 w2 v l := by
  refine ⟨⟨h.1.1, ?_⟩, f.trans h.2 (fun _ _ e => e)⟩
  rcases h.1.2 with h0 | ⟨g, cap, cur, hv, hb, r⟩
  · exact .inl h0
  · exact .inr ⟨g, cap, cur, hv, Nat.le_trans f.size hb, r⟩
theorem LAt.one {w : World} {g : Nat} {x : Il} {t : TypeId} (hW : Whole w g t #[.slice x.A x.l.length x.c]) (hx : Lies w x.A (zC x.l)) : LAt w (some ⟨g, 0, none⟩) [x] := by
  intro w' f i hi
  refine ⟨g, 0, rfl, ?_⟩
  have hW' := hW.fr f (fun e => e)
  match i, hi with
  | 0, _ => exact ⟨by rw [hW'.cell]; rfl, hx.fr f (fun _ _ e => e)⟩
/-- What a call leaves that answers numbers, or an error. -/
def NumE (w w' : World) (e : Ending) (E : Int) (l : List Nat) : Prop := ∃ v, e = .returned (.tuple #[v, .int .i64 E]) ∧ OwnN w w' v (if E = 0 then l else [])
end Go.Proofs.Ytpaigmmpihcdaaa
/- What is proved: Heads, Bases, Is, Above of the program. Conditions: the cells are there; at most a thousand numbers a list. -/
namespace Go.Proofs.Ytpaigmmpihcdaaa
open Go.RowKit Go.Shelf
set_option linter.unusedVariables false
theorem nat_of {N : Nat} {z : Int} (h : badZ N z = false) : ∃ n : Nat, z = (n : Int) ∧ n < N ∧ z.toNat = n := ⟨z.toNat, by have := (badZ_no h).1; omega, (badZ_no h).2, rfl⟩
end Go.Proofs.Ytpaigmmpihcdaaa
/- What is proved: whether two lists of numbers are one; the numbers that are true; ancestors, by the document. Conditions: the cells are there, the graph right. -/
namespace Go.Proofs.Ytpaigmmpihcdaaa
open Go.RowKit Go.Shelf
set_option linter.unusedVariables false
theorem ne_at {a b : List Nat} {k : Nat} (h : ¬ a.getD k 0 = b.getD k 0) : ¬ a = b := fun e => h (by rw [e])
theorem eq_all {a b : List Nat} (hl : a.length = b.length) (h : ∀ k, k < a.length → a.getD k 0 = b.getD k 0) : a = b := by
  apply List.ext_getElem hl
  intro i h1 h2
  have := h i h1
  rwa [List.getD_eq_getElem?_getD, List.getD_eq_getElem?_getD, List.getElem?_eq_getElem h1, List.getElem?_eq_getElem h2] at this
set_option maxHeartbeats 1600000 in
set_option maxRecDepth 100000 in
theorem QaSame_any (A : Option Addr) (ca : Nat) (a : List Nat) (B : Option Addr) (cb : Nat) (b : List Nat) (ha : a.length ≤ 100000) (w : World) (h1 : Lies w A (nC a)) (h2 : Lies w B (nC b)) :
    Calls Try.prog 10 #[.slice A a.length ca, .slice B b.length cb] w fun e w' => e = .returned (.bool (decide (a = b))) ∧ Below w.heap.size w w' := by
  have HA := Lib.hid (fun w' (f : Fr (fun _ => False) w w') k hk => lies_nat h1 f k hk)
  have HB := Lib.hid (fun w' (f : Fr (fun _ => False) w w') k hk => lies_nat h2 f k hk)
  have HNe := Lib.hid (fun (k : Nat) (hh : ¬ a.getD k 0 = b.getD k 0) => decide_eq_false (ne_at hh))
  have HEq := Lib.hid (fun hl hh => decide_eq_true (eq_all (a := a) (b := b) hl hh))
  by_cases hl : a.length = b.length
  · have HEq2 := Lib.hid (HEq.out hl)
    obtain ⟨R, hR⟩ : ∃ R, decide (a = b) = R := ⟨_, rfl⟩
    rw [hR] at HNe HEq2 ⊢
    obtain ⟨n, hn⟩ : ∃ n, a.length = n := ⟨_, rfl⟩
    have hnb : b.length = n := by rw [← hl, hn]
    rw [hn] at ha HA HEq2 ⊢
    rw [hnb] at HB ⊢
    clear h1 h2 hl hR hn hnb HEq
    go_enter Try.func10, Try.ntmps10
    go_wp2
    go_loopg [5] n (fun kx s5 wr => ∃ k : Nat, s5 = .int .i64 k ∧ k ≤ n ∧ n - k ≤ kx ∧ Hid (Fr (fun _ => False) w wr) ∧ Hid (∀ i, i < k → a.getD i 0 = b.getD i 0))
    case atStart => exact ⟨0, rfl, by omega, by omega, Lib.hid (Fr.refl _ _), Lib.hid (fun i hi => by omega)⟩
    case round =>
      obtain ⟨k, rfl, hk, hkx, HFr, HI⟩ := hrel
      obtain ⟨wo, rfl⟩ : ∃ wo, wo = wr := ⟨wr, rfl⟩
      by_cases hlt : k < n
      · have hltz : (k : Int) < n := by omega
        obtain ⟨b1, o1, hB1, c1⟩ := HA.out wo HFr.out k hlt
        subst hB1
        obtain ⟨b2, o2, hB2, c2⟩ := HB.out wo HFr.out k hlt
        subst hB2
        have wk := wrap_nat1 k (by omega)
        have HNk := Lib.hid (HNe.out k)
        obtain ⟨x, hx⟩ : ∃ x, a.getD k 0 = x := ⟨_, rfl⟩
        obtain ⟨y, hy⟩ : ∃ y, b.getD k 0 = y := ⟨_, rfl⟩
        have HX := Lib.hid hx
        have HY := Lib.hid hy
        rw [hx] at c1 HNk
        rw [hy] at c2 HNk
        clear hx hy
        by_cases e : x = y
        · subst e
          go_upto_region 6 with fail
          go_quiet (fail)
          go_wp2
          go_roundg (n - (k + 1))
          case measure => omega
          case rel => exact ⟨k + 1, by go_num, by omega, Nat.le_refl _, Lib.hid (HFr.out.drewN _), Lib.hid (fun i hi => (by omega : i < k ∨ i = k).elim (HI.out i) (fun q => by rw [q, HX.out, HY.out]))⟩
        · have HE := Lib.hid (HNk.out e)
          have ez : ¬ ((x : Int) = (y : Int)) := by omega
          have eb : ((x : Int) == (y : Int)) = false := by simpa using ez
          go_upto_region 6 with fail
          go_quiet (fail)
          go_wp2
          go_ret
          exact ⟨by rw [HE.out]; rfl, (HFr.out.drewN _).below (fun _ _ e => e)⟩
      · obtain rfl : k = n := by omega
        have HE := Lib.hid (HEq2.out HI.out)
        go_wp2
        go_ret
        exact ⟨by rw [HE.out]; rfl, HFr.out.below (fun _ _ e => e)⟩
  · have HE : Hid (decide (a = b) = false) := Lib.hid (decide_eq_false (fun e => hl (by rw [e])))
    obtain ⟨R, hR⟩ : ∃ R, decide (a = b) = R := ⟨_, rfl⟩
    rw [hR] at HE ⊢
    obtain ⟨n, hn⟩ : ∃ n, a.length = n := ⟨_, rfl⟩
    obtain ⟨m, hm⟩ : ∃ n, b.length = n := ⟨_, rfl⟩
    rw [hn, hm] at hl ⊢
    have ez : ¬ ((n : Int) = (m : Int)) := by omega
    have eb : ((n : Int) == (m : Int)) = false := by simpa using ez
    clear h1 h2 hR hn hm HEq HNe hl HA HB
    go_enter Try.func10, Try.ntmps10
    go_wp2
    go_ret
    exact ⟨by rw [HE.out]; rfl, Below.refl _ _⟩
set_option maxHeartbeats 1600000 in
set_option maxRecDepth 100000 in
theorem QaList_any (g N : Nat) (f : Nat → Bool) (hN : N ≤ 100000) (w : World) (h : Whole w g 4 (rowC (boolC f) N)) :
    Calls Try.prog 18 #[.slice (some ⟨g, 0, none⟩) N N] w fun e w' => ∃ v, e = .returned v ∧ OwnN w w' v (selB f N) := by
  obtain ⟨i0, hi, hz0, hz1, hz2⟩ := info_parts info_int
  have HMb := Lib.hid h
  have HS := Lib.hid (selB_succ f)
  have HLen := Lib.hid (selB_len f)
  clear h
  go_enter Try.func18, Try.ntmps18
  go_wp2
  go_loopg [3, 4] N (fun kx s3 s4 wr => ∃ (k : Nat) (v : Value), s4 = .int .i64 k ∧ v = s3 ∧ k ≤ N ∧ N - k ≤ kx ∧ Hid (OwnN w wr v (selB f k)))
  case atStart => exact ⟨0, .slice none 0 0, rfl, rfl, by omega, by omega, Lib.hid (OwnN.nil (Fr.refl _ _))⟩
  case round =>
    obtain ⟨k, v, rfl, rfl, hk, hkx, HO⟩ := hrel
    obtain ⟨wo, rfl⟩ : ∃ wo, wo = wr := ⟨wr, rfl⟩
    have wk := wrap_nat1 k (by omega)
    by_cases hlt : k < N
    · have hltz : (k : Int) < N := by omega
      have cm := (HMb.out.fr HO.out.2 (fun e => e)).rcell k hlt
      simp only [boolC] at cm
      have HSk := Lib.hid (HS.out k)
      have hLk := HLen.out k
      obtain ⟨b, hb⟩ : ∃ b, f k = b := ⟨_, rfl⟩
      rw [hb] at cm HSk
      obtain ⟨w1, hw1⟩ : ∃ w1, wo.alloc (.cells #[.int .i64 (k : Nat)] 3) = w1 := ⟨_, rfl⟩
      have HF1 := Lib.hid (show Fr (fun _ => False) wo w1 from by subst hw1; exact (Fr.refl (fun _ => False) wo).alloc _)
      have HSrc := Lib.hid (show Src Try.prog 1 23 (.slice (some ⟨wo.heap.size, 0, none⟩) 1 1) 1 (nC [k]) w1 from by subst hw1; exact src_one Try.underlying23 wo _ rfl)
      have HO1 := Lib.hid (HO.out.fr HF1.out)
      obtain ⟨l, hl⟩ : ∃ l, selB f k = l := ⟨_, rfl⟩
      rw [hl] at HSk hLk HO1 HO
      have HBase : Hid (w.heap.size ≤ w1.heap.size) := Lib.hid HO1.out.2.size
      clear hl hb
      cases b
      · have HE : Hid (selB f (k + 1) = l) := Lib.hid (by rw [HSk.out]; simp)
        go_wp2
        go_roundg (N - (k + 1))
        case measure => omega
        case rel => exact ⟨k + 1, v, by go_num, rfl, by omega, Nat.le_refl _, Lib.hid (by rw [HE.out]; exact HO.out)⟩
      · have HE : Hid (selB f (k + 1) = l ++ [k]) := Lib.hid (by rw [HSk.out]; simp)
        go_wp2_with (at_builtin; refine wpList_append_row _ rfl (.tmp 15) (.tmp 17) 23 23 rfl w.heap.size 3 i0 (.int .i64 0) 1 8 Try.underlying23 hi hz0 hz1 hz2 rfl v l.length (nC l) rfl HO1.out.1 (.slice (some ⟨wo.heap.size, 0, none⟩) 1 1) 1 (nC [k]) rfl HSrc.out (by unfold maxLen; omega) (by omega) HBase.out ?_
                     intro v' w4 o1 g1 at1
                     have HO4 := Lib.hid (HO1.out.grow o1 g1)
                     clear o1 g1 at1)
        go_roundg (N - (k + 1))
        case measure => omega
        case rel => exact ⟨k + 1, v', by go_num, rfl, by omega, Nat.le_refl _, Lib.hid (by rw [HE.out]; exact HO4.out)⟩
    · obtain rfl : k = N := by omega
      go_wp2
      go_ret
      exact ⟨v, rfl, HO.out⟩
/-- A row of truths that a call has made. -/
structure OwB (w w' : World) (g N : Nat) (f : Nat → Bool) : Prop where
  row : Whole w' g 4 (rowC (boolC f) N)
  old : Fr (fun _ => False) w w'
  new : w.heap.size ≤ g
theorem OwB.set {w w' : World} {g N : Nat} {f : Nat → Bool} (h : OwB w w' g N f) (k : Nat) (hk : k < N) (b : Bool) (f' : Nat → Bool) (hf : ∀ j, j < N → (if j = k then b else f j) = f' j) : OwB w (w'.setCell ⟨g, k, none⟩ (.bool b)) g N f' :=
  ⟨h.row.rset k _ hk _ (fun j hj => by
    have := hf j hj
    unfold boolC
    by_cases e : j = k
    · rw [if_pos e] at this ⊢; rw [this]
    · rw [if_neg e] at this ⊢; rw [this]), h.old.trans ((Fr.refl (fun j => j = g) w').setCell (p := ⟨g, k, none⟩) (fun _ => rfl) _) (fun j hj e => by have := h.new; omega), h.new⟩
theorem OwB.fr {w w' w2 : World} {g N : Nat} {f : Nat → Bool} (h : OwB w w' g N f) (k : Fr (fun _ => False) w' w2) : OwB w w2 g N f := ⟨h.row.fr k (fun e => e), h.old.trans k (fun _ _ e => e), h.new⟩
theorem OwB.base {w0 w w' : World} {g N : Nat} {f : Nat → Bool} (h : OwB w w' g N f) (k : Fr (fun _ => False) w0 w) : OwB w0 w' g N f := ⟨h.row, k.trans h.old (fun _ _ e => e), Nat.le_trans k.size h.new⟩
end Go.Proofs.Ytpaigmmpihcdaaa
/- What is proved: heads, ancestors of some that are none of others, and where two nodes meet, by the document. Conditions: the cells are there, the graph right, the numbers nodes'. -/
namespace Go.Proofs.Ytpaigmmpihcdaaa
open Go.RowKit Go.Shelf
set_option linter.unusedVariables false
theorem OwnN.len {w0 w : World} {A : Option Addr} {n c : Nat} {l : List Nat} (h : OwnN w0 w (.slice A n c) l) : n = l.length := by
  obtain ⟨B, d, hv, _⟩ := h.shape
  injection hv
theorem OwnN.addr {w0 w : World} {A : Option Addr} {n c : Nat} {l : List Nat} (h : OwnN w0 w (.slice A n c) l) : ∀ ad, A = some ad → w0.heap.size ≤ ad.block := by
  intro ad e
  rcases own_shape h.1 with ⟨hv, _⟩ | ⟨g, cap, hv, _, _, hb⟩
  · injection hv with h1; rw [h1] at e; cases e
  · injection hv with h1; rw [h1] at e; injection e with e; rw [← e]; exact hb
end Go.Proofs.Ytpaigmmpihcdaaa
/- What is proved: generations, children of one node, by the document. Conditions: the graph's cells are there, the graph is right. -/
namespace Go.Proofs.Ytpaigmmpihcdaaa
open Go.RowKit Go.Shelf
set_option linter.unusedVariables false
/-- A node's parents, in a later world. -/
theorem kin_at {w : World} {A : Option Addr} {G : List Nd} (hG : GAt w A G) (hR : RightG G) (n : Nat) (hn : n < G.length) : ∃ (Ap : Option Addr) (cp : Nat), ∀ w', Fr (fun _ => False) w w' → ∃ bb o, A = some ⟨bb, o, none⟩ ∧ w'.cell? ⟨bb, o + n * 2, none⟩ = some (.slice Ap (prG G n).length cp) ∧ ∀ k, k < (prG G n).length → ∃ b3 o3, Ap = some ⟨b3, o3, none⟩ ∧ w'.cell? ⟨b3, o3 + k, none⟩ = some (.int .i64 ((prG G n).getD k 0 : Nat)) := by
  refine ⟨G[n].A, G[n].c, fun w' f => ?_⟩
  obtain ⟨bb, o, h1, h2, _, h3, _⟩ := hG.node f n hn
  have h4 := hR.nat n hn
  rw [h4.2] at h2
  rw [h4.1] at h3
  exact ⟨bb, o, h1, h2, fun k hk => lies_nat h3 (Fr.refl (fun _ => False) w') k hk⟩
theorem pr_lt {G : List Nd} (hR : RightG G) (n : Nat) (hn : n < G.length) (k : Nat) (hk : k < (prG G n).length) : (prG G n).getD k 0 < n := hR.dn n hn _ (by rw [List.getD_eq_getElem?_getD, List.getElem?_eq_getElem hk]; exact List.getElem_mem hk)
end Go.Proofs.Ytpaigmmpihcdaaa
/- What is proved: what calls leave, in the words of a law's walk; the law DagBases is true. Conditions: the graph's cells are there. -/
namespace Go.Proofs.Ytpaigmmpihcdaaa
open Go.RowKit Go.Shelf
set_option linter.unusedVariables false
theorem NumE.ok {w w' : World} {e : Ending} {l : List Nat} (h : NumE w w' e 0 l) : ∃ A c, e = .returned (.tuple #[.slice A l.length c, .int .i64 0]) ∧ Lies w' A (nC l) ∧ Fr (fun _ => False) w w' := by
  obtain ⟨v, he, ho⟩ := h
  rw [if_pos rfl] at ho
  obtain ⟨A, c, rfl, _, _, _, hl⟩ := ho.shape
  exact ⟨A, c, he, hl, ho.2⟩
theorem same_ok (A : Option Addr) (ca : Nat) (l : List Nat) (B : Option Addr) (cb : Nat) (n : Nat) (hn : l.length = n) (hl : n ≤ 100000) (w : World) (h1 : Lies w A (nC l)) (h2 : Lies w B (nC l)) :
    Calls Try.prog 10 #[.slice A n ca, .slice B n cb] w fun e w' => e = .returned (.bool true) ∧ Fr (fun _ => False) w w' := by
  subst hn
  exact (QaSame_any A ca l B cb l hl w h1 h2).mono fun e w' ⟨h1, h2⟩ => ⟨by rw [h1]; simp, Fr.of_below h2⟩
theorem nodE_len {G : List Nd} {l : List Int} (h : nodE G l = 0) : G.length ≤ 128 := (right_of (nodE_zero h).1).len
end Go.Proofs.Ytpaigmmpihcdaaa
/- What is proved: the law DagRanges is true. Conditions: the cells are there. -/
namespace Go.Proofs.Ytpaigmmpihcdaaa
open Go.RowKit Go.Shelf
set_option linter.unusedVariables false
theorem own_none1 (w : World) : (w.alloc (.cells #[] 3)).ownsRow w.heap.size 3 1 (.slice (some ⟨w.heap.size, 0, none⟩) 0 0) 0 [] :=
  World.ownsRow_made w #[] 0 (Nat.le_refl _) (Nat.zero_le _) rfl
end Go.Proofs.Ytpaigmmpihcdaaa

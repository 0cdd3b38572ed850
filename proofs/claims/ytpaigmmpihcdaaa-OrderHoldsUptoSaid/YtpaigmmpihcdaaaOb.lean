/- What is proved: what the walks of this seat need of layers below, merged out of the texts Ka Kb (of each just what is needed). Conditions: each theorem names its own. -/
import Derived.Laws.OwnMore
import Derived.Deep.DeepCutAuto
import Derived.Deep.RegionHeld3
import Derived.Deep.Slices
import Derived.WalkMore
import Derived.Test.YtpaigmmpihcdaaaChecked
import Derived.Test.YtpaigmmpihcdaaaOa
/- What is proved: plain facts on a graph of numbers: marks that are handed down to parents, ancestors, heads, queues, generations, children. Conditions: none; no program is named. -/
namespace Go.Proofs.Ytpaigmmpihcdaaa
set_option linter.unusedVariables false
def hu (x : Nat) : Nat := if x &&& 3 = 3 then x ||| 4 else x
def addM (M : Nat → Nat) (m : Nat) (l : List Nat) : Nat → Nat := fun k => if k ∈ l then M k ||| m else M k
inductive Anc (pr : Nat → List Nat) : Nat → Nat → Prop
  | refl (n : Nat) : Anc pr n n
  | step {n p m : Nat} (hp : p ∈ pr m) (h : Anc pr n p) : Anc pr n m
theorem Anc.trans {pr : Nat → List Nat} {a b c : Nat} (h : Anc pr a b) (k : Anc pr b c) : Anc pr a c := by
  induction k with
  | refl => exact h
  | step hp _ ih => exact .step hp ih
/-- Parents stand below. -/
def Dn (pr : Nat → List Nat) (N : Nat) : Prop := ∀ n, n < N → ∀ p ∈ pr n, p < n
/-- The numbers that a question holds of, rising. -/
def selB (f : Nat → Bool) (N : Nat) : List Nat := (List.range N).filter f
theorem selB_congr {f g : Nat → Bool} {N : Nat} (h : ∀ k, k < N → f k = g k) : selB f N = selB g N := by
  unfold selB
  exact List.filter_congr (fun x hx => h x (List.mem_range.1 hx))
theorem selB_succ (f : Nat → Bool) (n : Nat) : selB f (n + 1) = selB f n ++ (if f n = true then [n] else []) := by
  unfold selB
  rw [List.range_succ, List.filter_append]
  congr 1
  by_cases h : f n = true
  · simp [h]
  · simp [h]
theorem mem_selB (f : Nat → Bool) (N k : Nat) : k ∈ selB f N ↔ k < N ∧ f k = true := by simp [selB]
theorem selB_len (f : Nat → Bool) (N : Nat) : (selB f N).length ≤ N := by
  have := List.length_filter_le f (List.range N)
  rwa [List.length_range] at this
/-! Queues. -/
theorem asc_ext : ∀ {a b : List Nat}, a.Pairwise (· < ·) → b.Pairwise (· < ·) → (∀ x, x ∈ a ↔ x ∈ b) → a = b
  | [], [], _, _, _ => rfl
  | [], y :: b, _, _, h => absurd ((h y).2 (by simp)) (by simp)
  | x :: a, [], _, _, h => absurd ((h x).1 (by simp)) (by simp)
  | x :: a, y :: b, ha, hb, h => by
    rw [List.pairwise_cons] at ha hb
    have hxy : x = y := by
      have h1 := (h x).1 (by simp)
      have h2 := (h y).2 (by simp)
      rw [List.mem_cons] at h1 h2
      rcases h1 with h1 | h1
      · exact h1
      · rcases h2 with h2 | h2
        · exact h2.symm
        · have := hb.1 x h1
          have := ha.1 y h2
          omega
    subst hxy
    congr 1
    refine asc_ext ha.2 hb.2 (fun z => ?_)
    have := h z
    rw [List.mem_cons, List.mem_cons] at this
    constructor
    · intro hz
      rcases this.1 (.inr hz) with h1 | h1
      · have := ha.1 z hz; omega
      · exact h1
    · intro hz
      rcases this.2 (.inr hz) with h1 | h1
      · have := hb.1 z hz; omega
      · exact h1
theorem selB_asc (f : Nat → Bool) (N : Nat) : (selB f N).Pairwise (· < ·) := List.Pairwise.filter _ List.pairwise_lt_range
/-- The marks are bits three. -/
def Mk8 (M : Nat → Nat) : Prop := ∀ k, M k < 8
theorem or8 {x y : Nat} (hx : x < 8) (hy : y < 8) : x ||| y < 8 := Nat.or_lt_two_pow (n := 3) hx hy
theorem Mk8.add {M : Nat → Nat} (h : Mk8 M) {m : Nat} (hm : m < 8) (l : List Nat) : Mk8 (addM M m l) := fun k => by
  unfold addM
  split
  · exact or8 (h k) hm
  · exact h k
end Go.Proofs.Ytpaigmmpihcdaaa
/- What is proved: numbers, truths, marks as rows of memory; a graph's nodes in memory; rows made, built, sliced. Conditions: each theorem names its own. -/
namespace Go.Proofs.Ytpaigmmpihcdaaa
open Go.RowKit
set_option linter.unusedVariables false
theorem info_parts {P : Program} {t : TypeId} {z : Value} {s b : Nat} (h : (P.info? t).map (fun i => (i.zero, i.size, i.bytes)) = some (some z, s, b)) : ∃ i, P.info? t = some i ∧ i.zero = some z ∧ i.size = s ∧ i.bytes = b := by
  cases hq : P.info? t with
  | none => simp [hq] at h
  | some i =>
    simp [hq] at h
    exact ⟨i, rfl, h.1, h.2.1, h.2.2⟩
theorem src_one {tx e' : TypeId} (hk : Try.prog.underlying tx = some (.slice e')) (w : World) (c : Value) (hc : c.oneCell' = true) : Src Try.prog 1 tx (.slice (some ⟨w.heap.size, 0, none⟩) 1 1) 1 [c] (w.alloc (.cells #[c] e')) :=
  Src.ofSlice _ hk ⟨w.heap.size, 0, none⟩ 1 1 [c] rfl (by intro j u hj; match j, hj with | 0, hj => simp at hj; subst hj; simp [Addr.add]) (by intro u hu; simp at hu; subst hu; exact hc)
theorem fr_append {w0 w w' : World} {v : Value} {n : Nat} {xs : List Value} {e : TypeId} {size : Nat} (h : w.ownsRow w0.heap.size e size v n xs) (f : Fr (fun _ => False) w0 w) (hg : w.grownBy w' v.ownBlock) : Fr (fun _ => False) w0 w' :=
  f.grown hg (fun k hk hlt => absurd hlt (by have := (World.ownsRow.lt h k hk).1; omega))
theorem Lies.of_whole {w : World} {g : Nat} {t : TypeId} {xs : List Value} (h : Whole w g t xs.toArray) : Lies w (some ⟨g, 0, none⟩) xs :=
  .inr ⟨g, 0, rfl, fun j u hu => by rw [Nat.zero_add, h.cell, List.getElem?_toArray]; exact hu⟩
theorem wrap_nat (k : Nat) (h : k ≤ 1000000) : IntKind.i64.wrap (k : Int) = k := by rw [IntKind.wrap_i64]; omega
theorem wrap_nat1 (k : Nat) (h : k ≤ 1000000) : IntKind.i64.wrap ((k : Int) + 1) = (k : Int) + 1 := by rw [IntKind.wrap_i64]; omega
theorem toNat_nat1 (k : Nat) : ((k : Int) + 1).toNat = k + 1 := by omega
/-! Lists of numbers. -/
def zC (l : List Int) : List Value := l.map (fun z => .int .i64 z)
def nC (l : List Nat) : List Value := l.map (fun n => .int .i64 (n : Nat))
theorem zC_len (l : List Int) : (zC l).length = l.length := by simp [zC]
theorem nC_len (l : List Nat) : (nC l).length = l.length := by simp [nC]
theorem nC_append (a b : List Nat) : nC (a ++ b) = nC a ++ nC b := by simp [nC]
theorem zC_append (a b : List Int) : zC (a ++ b) = zC a ++ zC b := by simp [zC]
theorem zC_get (l : List Int) (k : Nat) (h : k < l.length) : (zC l)[k]? = some (.int .i64 (l.getD k 0)) := by
  rw [zC, List.getElem?_map, List.getElem?_eq_getElem h, List.getD_eq_getElem?_getD, List.getElem?_eq_getElem h]; rfl
theorem nC_get (l : List Nat) (k : Nat) (h : k < l.length) : (nC l)[k]? = some (.int .i64 (l.getD k 0 : Nat)) := by
  rw [nC, List.getElem?_map, List.getElem?_eq_getElem h, List.getD_eq_getElem?_getD, List.getElem?_eq_getElem h]; rfl
theorem zC_one (l : List Int) : ∀ v ∈ zC l, v.oneCell' = true := by
  intro v hv; obtain ⟨p, _, rfl⟩ := List.mem_map.1 hv; rfl
theorem nC_one (l : List Nat) : ∀ v ∈ nC l, v.oneCell' = true := by
  intro v hv; obtain ⟨p, _, rfl⟩ := List.mem_map.1 hv; rfl
theorem nC_zC (l : List Nat) : nC l = zC (l.map (fun n : Nat => (n : Int))) := by simp [nC, zC]
theorem nC_nil {l : List Nat} (h : nC l = []) : l = [] := by simpa [nC] using h
theorem lies_int {w w' : World} {A : Option Addr} {l : List Int} (h : Lies w A (zC l)) (f : Fr (fun _ => False) w w') (k : Nat) (hk : k < l.length) : ∃ b o, A = some ⟨b, o, none⟩ ∧ w'.cell? ⟨b, o + k, none⟩ = some (.int .i64 (l.getD k 0)) := by
  rcases h with h | ⟨b, o, rfl, hc⟩
  · have := zC_len l; rw [h] at this; simp at this; omega
  · exact ⟨b, o, rfl, f.cell (hc k _ (zC_get l k hk)) (fun e => e)⟩
theorem lies_nat {w w' : World} {A : Option Addr} {l : List Nat} (h : Lies w A (nC l)) (f : Fr (fun _ => False) w w') (k : Nat) (hk : k < l.length) : ∃ b o, A = some ⟨b, o, none⟩ ∧ w'.cell? ⟨b, o + k, none⟩ = some (.int .i64 (l.getD k 0 : Nat)) := by
  rcases h with h | ⟨b, o, rfl, hc⟩
  · have := nC_len l; rw [h] at this; simp at this; omega
  · exact ⟨b, o, rfl, f.cell (hc k _ (nC_get l k hk)) (fun e => e)⟩
/-! A row told by a function. -/
def rowC (e : Nat → Value) (n : Nat) : Array Value := ((List.range n).map e).toArray
theorem rowC_size (e : Nat → Value) (n : Nat) : (rowC e n).size = n := by simp [rowC]
theorem rowC_get (e : Nat → Value) (n k : Nat) (h : k < n) : (rowC e n)[k]? = some (e k) := by simp [rowC, h]
theorem rowC_congr {e f : Nat → Value} {n : Nat} (h : ∀ k, k < n → e k = f k) : rowC e n = rowC f n := by
  unfold rowC
  congr 1
  apply List.map_congr_left
  intro k hk
  exact h k (List.mem_range.1 hk)
theorem rowC_set (e : Nat → Value) (n k : Nat) (v : Value) (h : k < n) : (rowC e n).setIfInBounds k v = rowC (fun j => if j = k then v else e j) n := by
  apply Array.ext_getElem?
  intro i
  rw [Array.getElem?_setIfInBounds]
  by_cases hi : i < n
  · rw [rowC_get (fun j => if j = k then v else e j) n i hi]
    by_cases q : k = i
    · subst q
      rw [if_pos rfl, if_pos (by rw [rowC_size]; exact hi)]
      simp
    · rw [if_neg q, rowC_get e n i hi]
      simp [Ne.symm q]
  · rw [Array.getElem?_eq_none (by rw [rowC_size]; omega), if_neg (by omega), Array.getElem?_eq_none (by rw [rowC_size]; omega)]
theorem Whole.rset {w : World} {g : Nat} {t : TypeId} {e : Nat → Value} {n : Nat} (h : Whole w g t (rowC e n)) (k : Nat) (v : Value) (hk : k < n) (f : Nat → Value) (hf : ∀ j, j < n → (if j = k then v else e j) = f j) :
    Whole (w.setCell ⟨g, k, none⟩ v) g t (rowC f n) := by
  have := h.set k v
  rwa [rowC_set e n k v hk, rowC_congr hf] at this
theorem Whole.rcell {w : World} {g : Nat} {t : TypeId} {e : Nat → Value} {n : Nat} (h : Whole w g t (rowC e n)) (k : Nat) (hk : k < n) : w.cell? ⟨g, k, none⟩ = some (e k) := by
  rw [h.cell, rowC_get e n k hk]
def boolC (f : Nat → Bool) : Nat → Value := fun k => .bool (f k)
def intC (f : Nat → Nat) : Nat → Value := fun k => .int .i64 (f k : Nat)
theorem rowC_nC (f : Nat → Nat) (n : Nat) : (rowC (intC f) n).toList = nC ((List.range n).map f) := by
  simp [rowC, nC, intC]
theorem info_bool : (Try.prog.info? 4).map (fun i => (i.zero, i.size, i.bytes)) = some (some (.bool false), 1, 1) := by kernel_rfl
theorem info_int : (Try.prog.info? 3).map (fun i => (i.zero, i.size, i.bytes)) = some (some (.int .i64 0), 1, 8) := by kernel_rfl
theorem made_row (z : Value) (n : Nat) (hz : z.cells = #[z]) : madeCells z.cells n = rowC (fun _ => z) n := by
  rw [hz]
  apply Array.toList_inj.1
  rw [toList_madeCells_one]
  apply List.ext_getElem
  · simp [rowC]
  · intro i h1 h2
    simp [rowC]
theorem make_bools (n : Nat) (hn : n ≤ 1000000) (w : World) : (Instr.makeSlice 35 (.int .i64 n) (.int .i64 n)).run Try.prog w = .ok (.slice (some ⟨w.heap.size, 0, none⟩) n n) (w.alloc (.cells (rowC (boolC fun _ => false) n) 4)) := by
  (
    obtain ⟨i0, hi, hz0, hz1, hz2⟩ := info_parts info_bool
    have h := run_make (P := Try.prog) w 35 4 i0 (.bool false) (by kernel_rfl) hi hz0 .i64 .i64 n n (by omega) (by omega) (by rw [hz2]; omega) (by omega)
    rw [Int.toNat_natCast, hz1, Nat.mul_one, made_row _ _ rfl] at h
    exact h)
theorem make_ints (n : Nat) (hn : n ≤ 1000000) (w : World) : (Instr.makeSlice 23 (.int .i64 n) (.int .i64 n)).run Try.prog w = .ok (.slice (some ⟨w.heap.size, 0, none⟩) n n) (w.alloc (.cells (rowC (intC fun _ => 0) n) 3)) := by
  (
    obtain ⟨i0, hi, hz0, hz1, hz2⟩ := info_parts info_int
    have h := run_make (P := Try.prog) w 23 3 i0 (.int .i64 0) (by kernel_rfl) hi hz0 .i64 .i64 n n (by omega) (by omega) (by rw [hz2]; omega) (by omega)
    rw [Int.toNat_natCast, hz1, Nat.mul_one, made_row _ _ rfl] at h
    exact h)
/-! Rows of the call's own. -/
def OwnN (w0 w : World) (v : Value) (l : List Nat) : Prop := w.ownsRow w0.heap.size 3 1 v l.length (nC l) ∧ Fr (fun _ => False) w0 w
theorem OwnN.fr {w0 w w' : World} {v : Value} {l : List Nat} (h : OwnN w0 w v l) (f : Fr (fun _ => False) w w') : OwnN w0 w' v l := ⟨own_fr h.1 f (fun _ _ e => e), h.2.trans f (fun _ _ e => e)⟩
theorem OwnN.nil {w0 w : World} (f : Fr (fun _ => False) w0 w) : OwnN w0 w (.slice none 0 0) [] := ⟨World.ownsRow_nil w w0.heap.size 3 1, f⟩
theorem OwnN.grow {w0 w w' : World} {v v' : Value} {l : List Nat} {x : Nat} (h : OwnN w0 w v l) (o : w'.ownsRow w0.heap.size 3 1 v' (l.length + 1) (nC l ++ nC [x])) (g : w.grownBy w' v.ownBlock) : OwnN w0 w' v' (l ++ [x]) := by
  refine ⟨?_, fr_append h.1 h.2 g⟩
  rw [List.length_append, nC_append]
  exact o
theorem OwnN.shape {w0 w : World} {v : Value} {l : List Nat} (h : OwnN w0 w v l) : ∃ A c, v = .slice A l.length c ∧ l.length ≤ c ∧ c ≤ maxLen ∧ (A = none ∨ ∃ b o, A = some ⟨b, o, none⟩) ∧ Lies w A (nC l) := by
  rcases own_shape h.1 with ⟨rfl, h0, h1⟩ | ⟨g, cap, hv, hn, hc, hb⟩
  · rw [h0]
    exact ⟨none, 0, rfl, Nat.zero_le _, Nat.zero_le _, .inl rfl, .inl h1⟩
  · have := Lies.of_own (by rw [← hv]; exact h.1)
    exact ⟨_, cap, hv, hn, hc, .inr ⟨g, 0, rfl⟩, this⟩
theorem Lies.srcN {w : World} {A : Option Addr} {l : List Nat} (h : Lies w A (nC l)) {n : Nat} (hn : l.length = n) (c : Nat) : Src Try.prog 1 23 (.slice A n c) n (nC l) w := by
  subst hn
  have := h.src (P := Try.prog) (tx := 23) (e' := 3) Try.underlying23 (nC_one l) c
  rwa [nC_len] at this
theorem Lies.srcZ {w : World} {A : Option Addr} {l : List Int} (h : Lies w A (zC l)) {n : Nat} (hn : l.length = n) (c : Nat) : Src Try.prog 1 23 (.slice A n c) n (zC l) w := by
  subst hn
  have := h.src (P := Try.prog) (tx := 23) (e' := 3) Try.underlying23 (zC_one l) c
  rwa [zC_len] at this
/-! Slices of rows of numbers. -/
theorem elem1 (w : World) : (sizeOf (Try.prog.elem 23)).run Try.prog w = .ok 1 w := by kernel_rfl
theorem underNs : Try.prog.underlying 23 = some (.slice (Try.prog.elem 23)) := by kernel_rfl
def tlN (A : Option Addr) (c m : Nat) : Option Addr := if c = m then A else A.map (·.add m)
theorem slice_hdN (A : Option Addr) (hA : A = none ∨ ∃ b o, A = some ⟨b, o, none⟩) (n c m : Nat) (h : m ≤ c) (w : World) : (Instr.slice 23 (.slice A n c) none (some (.int .i64 m)) none).run Try.prog w = .ok (.slice A m c) w := by
  have e := run_slice_h (P := Try.prog) w 23 A n c underNs .i64 (m : Int) (by omega) (by omega)
  rw [e, elem1]
  rcases hA with rfl | ⟨b, o, rfl⟩
  · simp [sliced]
  · simp [sliced, add_off]
theorem slice_tlN (A : Option Addr) (n c m : Nat) (h : m ≤ n) (w : World) : (Instr.slice 23 (.slice A n c) (some (.int .i64 m)) none none).run Try.prog w = .ok (.slice (tlN A c m) (n - m) (c - m)) w := by
  have e := run_slice_l (P := Try.prog) w 23 A n c underNs .i64 (m : Int) (by omega) (by omega)
  rw [e, elem1]
  simp [sliced, tlN]
theorem tlN_some (g c m : Nat) (h : c ≠ m) : tlN (some ⟨g, 0, none⟩) c m = some ⟨g, m, none⟩ := by
  unfold tlN
  rw [if_neg h]
  simp [add_off]
/-! A graph's nodes. -/
structure Nd where
  A : Option Addr
  c : Nat
  ps : List Int
  t : Int
instance : Inhabited Nd := ⟨⟨none, 0, [], 0⟩⟩
def nodeV (d : Nd) : List Value := [.slice d.A d.ps.length d.c, .int .i64 d.t]
def flatG (G : List Nd) : List Value := G.flatMap nodeV
theorem flatG_get : ∀ (G : List Nd) (k : Nat) (h : k < G.length), (flatG G)[k * 2]? = some (.slice G[k].A G[k].ps.length G[k].c) ∧ (flatG G)[k * 2 + 1]? = some (.int .i64 G[k].t)
  | d :: G, 0, h => by simp [flatG, nodeV]
  | d :: G, k + 1, h => by
    have := flatG_get G k (by simpa using h)
    rw [show (k + 1) * 2 = k * 2 + 2 by omega]
    simpa [flatG, nodeV] using this
def GAt (w : World) (A : Option Addr) (G : List Nd) : Prop := Lies w A (flatG G) ∧ ∀ d ∈ G, d.ps.length ≤ d.c ∧ Lies w d.A (zC d.ps)
theorem GAt.fr {w w' : World} {A : Option Addr} {G : List Nd} (h : GAt w A G) (f : Fr (fun _ => False) w w') : GAt w' A G := ⟨h.1.fr f (fun _ _ e => e), fun d hd => ⟨(h.2 d hd).1, (h.2 d hd).2.fr f (fun _ _ e => e)⟩⟩
theorem GAt.node {w w' : World} {A : Option Addr} {G : List Nd} (h : GAt w A G) (f : Fr (fun _ => False) w w') (k : Nat) (hk : k < G.length) : ∃ b o, A = some ⟨b, o, none⟩ ∧ w'.cell? ⟨b, o + k * 2, none⟩ = some (.slice G[k].A G[k].ps.length G[k].c) ∧ w'.cell? ⟨b, o + (k * 2 + 1), none⟩ = some (.int .i64 G[k].t) ∧ Lies w' G[k].A (zC G[k].ps) ∧ G[k].ps.length ≤ G[k].c := by
  obtain ⟨h1, h2⟩ := flatG_get G k hk
  rcases h.1 with h0 | ⟨b, o, rfl, hc⟩
  · rw [h0] at h1; simp at h1
  · exact ⟨b, o, rfl, f.cell (hc _ _ h1) (fun e => e), f.cell (hc _ _ h2) (fun e => e), (h.2 _ (List.getElem_mem hk)).2.fr f (fun _ _ e => e), (h.2 _ (List.getElem_mem hk)).1⟩
/-- A node's parents, as numbers. -/
def prG (G : List Nd) (n : Nat) : List Nat := (G.getD n default).ps.map Int.toNat
end Go.Proofs.Ytpaigmmpihcdaaa

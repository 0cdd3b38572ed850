/- What is proved: what the walks of this seat need of layers below, merged out of the texts Ka Kb (of each just what is needed). Conditions: each theorem names its own. -/
import Derived.Laws.OwnMore
import Derived.Deep.DeepCutAuto
import Derived.Deep.RegionHeld3
import Derived.Deep.Slices
import Derived.WalkMore
import Derived.Test.YtgmohgofcjemkaaDoorChecked
import Derived.Test.YtgmohgofcjemkaaDoorBa
import Derived.Test.YtgmohgofcjemkaaDoorBas
import Derived.Test.YtgmohgofcjemkaaDoorBb
/- What is proved: plain facts on a graph of numbers: marks that are handed down to parents, ancestors, heads, queues, generations, children. Conditions: none; no program is named. -/
namespace Go.Proofs.YtgmohgofcjemkaaDoor
set_option linter.unusedVariables false
def hu (x : Nat) : Nat := if x &&& 3 = 3 then x ||| 4 else x
def addM (M : Nat → Nat) (m : Nat) (l : List Nat) : Nat → Nat := fun k => if k ∈ l then M k ||| m else M k
inductive Anc (pr : Nat → List Nat) : Nat → Nat → Prop
  | refl (n : Nat) : Anc pr n n
  | step {n p m : Nat} (hp : p ∈ pr m) (h : Anc pr n p) : Anc pr n m
theorem Anc.trans {pr : Nat → List Nat} {a b c : Nat} (h : Anc pr a b) (k : Anc pr b c) : Anc pr a c := by
  induction k with
  | refl => exact h
  | step hp _ ih => exact .step hp ih
/-- The marks are bits three. -/
def Mk8 (M : Nat → Nat) : Prop := ∀ k, M k < 8
theorem or8 {x y : Nat} (hx : x < 8) (hy : y < 8) : x ||| y < 8 := Nat.or_lt_two_pow (n := 3) hx hy
theorem Mk8.add {M : Nat → Nat} (h : Mk8 M) {m : Nat} (hm : m < 8) (l : List Nat) : Mk8 (addM M m l) := fun k => by
  unfold addM
  split
  · exact or8 (h k) hm
  · exact h k
end Go.Proofs.YtgmohgofcjemkaaDoor
/- What is proved: numbers, truths, marks as rows of memory; a graph's nodes in memory; rows made, built, sliced. Conditions: each theorem names its own. -/
namespace Go.Proofs.YtgmohgofcjemkaaDoor
open Go.RowKit
set_option linter.unusedVariables false
theorem wrap_nat (k : Nat) (h : k ≤ 1000000) : IntKind.i64.wrap (k : Int) = k := by rw [IntKind.wrap_i64]; omega
theorem wrap_nat1 (k : Nat) (h : k ≤ 1000000) : IntKind.i64.wrap ((k : Int) + 1) = (k : Int) + 1 := by rw [IntKind.wrap_i64]; omega
theorem toNat_nat1 (k : Nat) : ((k : Int) + 1).toNat = k + 1 := by omega
/-! Lists of numbers. -/
def zC (l : List Int) : List Value := l.map (fun z => .int .i64 z)
def nC (l : List Nat) : List Value := l.map (fun n => .int .i64 (n : Nat))
theorem nC_len (l : List Nat) : (nC l).length = l.length := by simp [nC]
theorem nC_append (a b : List Nat) : nC (a ++ b) = nC a ++ nC b := by simp [nC]
theorem nC_get (l : List Nat) (k : Nat) (h : k < l.length) : (nC l)[k]? = some (.int .i64 (l.getD k 0 : Nat)) := by
  rw [nC, List.getElem?_map, List.getElem?_eq_getElem h, List.getD_eq_getElem?_getD, List.getElem?_eq_getElem h]; rfl
theorem lies_nat {w w' : World} {A : Option Addr} {l : List Nat} (h : Lies w A (nC l)) (f : Fr (fun _ => False) w w') (k : Nat) (hk : k < l.length) : ∃ b o, A = some ⟨b, o, none⟩ ∧ w'.cell? ⟨b, o + k, none⟩ = some (.int .i64 (l.getD k 0 : Nat)) := by
  rcases h with h | ⟨b, o, rfl, hc⟩
  · have := nC_len l; rw [h] at this; simp at this; omega
  · exact ⟨b, o, rfl, f.cell (hc k _ (nC_get l k hk)) (fun e => e)⟩
/-! A row told by a function. -/
def rowC (e : Nat → Value) (n : Nat) : Array Value := ((List.range n).map e).toArray
theorem rowC_size (e : Nat → Value) (n : Nat) : (rowC e n).size = n := by simp [rowC]
theorem rowC_get (e : Nat → Value) (n k : Nat) (h : k < n) : (rowC e n)[k]? = some (e k) := by simp [rowC, h]
theorem rowC_congr {e f : Nat → Value} {n : Nat} (h : ∀ k, k < n → e k = f k) : rowC e n = rowC f n := by
  unfold rowC
  congr 1
  apply List.map_congr_left
  intro k hk
  exact h k (List.mem_range.1 hk)
theorem rowC_set (e : Nat → Value) (n k : Nat) (v : Value) (h : k < n) : (rowC e n).setIfInBounds k v = rowC (fun j => if j = k then v else e j) n := by
  apply Array.ext_getElem?
  intro i
  rw [Array.getElem?_setIfInBounds]
  by_cases hi : i < n
  · rw [rowC_get (fun j => if j = k then v else e j) n i hi]
    by_cases q : k = i
    · subst q
      rw [if_pos rfl, if_pos (by rw [rowC_size]; exact hi)]
      simp
    · rw [if_neg q, rowC_get e n i hi]
      simp [Ne.symm q]
  · rw [Array.getElem?_eq_none (by rw [rowC_size]; omega), if_neg (by omega), Array.getElem?_eq_none (by rw [rowC_size]; omega)]
theorem Whole.rset {w : World} {g : Nat} {t : TypeId} {e : Nat → Value} {n : Nat} (h : Whole w g t (rowC e n)) (k : Nat) (v : Value) (hk : k < n) (f : Nat → Value) (hf : ∀ j, j < n → (if j = k then v else e j) = f j) :
    Whole (w.setCell ⟨g, k, none⟩ v) g t (rowC f n) := by
  have := h.set k v
  rwa [rowC_set e n k v hk, rowC_congr hf] at this
theorem Whole.rcell {w : World} {g : Nat} {t : TypeId} {e : Nat → Value} {n : Nat} (h : Whole w g t (rowC e n)) (k : Nat) (hk : k < n) : w.cell? ⟨g, k, none⟩ = some (e k) := by
  rw [h.cell, rowC_get e n k hk]
def boolC (f : Nat → Bool) : Nat → Value := fun k => .bool (f k)
def intC (f : Nat → Nat) : Nat → Value := fun k => .int .i64 (f k : Nat)
theorem info_int : (Tryd.prog.info? 3).map (fun i => (i.zero, i.size, i.bytes)) = some (some (.int .i64 0), 1, 8) := by kernel_rfl
/-! Rows of the call's own. -/
def OwnN (w0 w : World) (v : Value) (l : List Nat) : Prop := w.ownsRow w0.heap.size 3 1 v l.length (nC l) ∧ Fr (fun _ => False) w0 w
theorem OwnN.fr {w0 w w' : World} {v : Value} {l : List Nat} (h : OwnN w0 w v l) (f : Fr (fun _ => False) w w') : OwnN w0 w' v l := ⟨own_fr h.1 f (fun _ _ e => e), h.2.trans f (fun _ _ e => e)⟩
theorem OwnN.nil {w0 w : World} (f : Fr (fun _ => False) w0 w) : OwnN w0 w (.slice none 0 0) [] := ⟨World.ownsRow_nil w w0.heap.size 3 1, f⟩
theorem OwnN.grow {w0 w w' : World} {v v' : Value} {l : List Nat} {x : Nat} (h : OwnN w0 w v l) (o : w'.ownsRow w0.heap.size 3 1 v' (l.length + 1) (nC l ++ nC [x])) (g : w.grownBy w' v.ownBlock) : OwnN w0 w' v' (l ++ [x]) := by
  refine ⟨?_, fr_append h.1 h.2 g⟩
  rw [List.length_append, nC_append]
  exact o
theorem OwnN.shape {w0 w : World} {v : Value} {l : List Nat} (h : OwnN w0 w v l) : ∃ A c, v = .slice A l.length c ∧ l.length ≤ c ∧ c ≤ maxLen ∧ (A = none ∨ ∃ b o, A = some ⟨b, o, none⟩) ∧ Lies w A (nC l) := by
  rcases own_shape h.1 with ⟨rfl, h0, h1⟩ | ⟨g, cap, hv, hn, hc, hb⟩
  · rw [h0]
    exact ⟨none, 0, rfl, Nat.zero_le _, Nat.zero_le _, .inl rfl, .inl h1⟩
  · have := Lies.of_own (by rw [← hv]; exact h.1)
    exact ⟨_, cap, hv, hn, hc, .inr ⟨g, 0, rfl⟩, this⟩
/-! A graph's nodes. -/
structure Nd where
  A : Option Addr
  c : Nat
  ps : List Int
  t : Int
instance : Inhabited Nd := ⟨⟨none, 0, [], 0⟩⟩
def nodeV (d : Nd) : List Value := [.slice d.A d.ps.length d.c, .int .i64 d.t]
def flatG (G : List Nd) : List Value := G.flatMap nodeV
def GAt (w : World) (A : Option Addr) (G : List Nd) : Prop := Lies w A (flatG G) ∧ ∀ d ∈ G, d.ps.length ≤ d.c ∧ Lies w d.A (zC d.ps)
theorem GAt.fr {w w' : World} {A : Option Addr} {G : List Nd} (h : GAt w A G) (f : Fr (fun _ => False) w w') : GAt w' A G := ⟨h.1.fr f (fun _ _ e => e), fun d hd => ⟨(h.2 d hd).1, (h.2 d hd).2.fr f (fun _ _ e => e)⟩⟩
end Go.Proofs.YtgmohgofcjemkaaDoor

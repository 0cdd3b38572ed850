/- What is proved: texts that stand one behind the other: Prv. Conditions: each theorem names its own. -/
import Derived.Test.YtkaeoflgnnlbeaaGreatDoorQPra
import Derived.Test.YtkaeoflgnnlbeaaGreatDoorDa
import Derived.Test.YtkaeoflgnnlbeaaGreatDoorDba
import Derived.Shelf.SlicesQ.Reverse
import Derived.Laws.OwnMore
/- What is proved: the program's own copy of slices.Reverse is the one that the library's contract speaks of (laid by hand); entries of a pack in memory of the call's own; turned round they lie there turned round. Conditions: the row is the call's own. -/
namespace Go.Proofs.YtkaeoflgnnlbeaaGreatDoor
open Go.RowKit Go.Shelf Go.Sort
set_option linter.unusedVariables false

def revL_ren : Go.Shelf.Ren := ⟨fun | 35 => 57 | n => n, fun | 22 => 84 | 23 => 122 | 0 => 0 | 3 => 3 | 4 => 4 | n => n, fun n => n⟩
theorem revL : Go.Proofs.SlLaysE0.n35 Tryz.prog revL_ren := {
  mixed := by kernel_rfl
  f35 := ⟨Tryz.f57.name, by decide, Tryz.func57.trans (congrArg some (by kernel_rfl))⟩
  t0 := Tryz.underlying0
  a0 := Tryz.isAgg0
  z0 := Tryz.sizeOf0
  v0 := Tryz.zeroValue0
  t3 := Tryz.underlying3
  a3 := Tryz.isAgg3
  z3 := Tryz.sizeOf3
  v3 := Tryz.zeroValue3
  t4 := Tryz.underlying4
  a4 := Tryz.isAgg4
  z4 := Tryz.sizeOf4
  v4 := Tryz.zeroValue4
  t22 := Tryz.underlying84
  a22 := Tryz.isAgg84
  z22 := Tryz.sizeOf84
  v22 := Tryz.zeroValue84 }

/-- An entry as the program holds it: its numbers, its load, and where that lies. -/
structure PEn where
  k : Int
  base : Int
  size : Int
  sum : Int
  ld : List UInt8
  B : Option Addr
  c : Nat
  en : Int
instance : Inhabited PEn := ⟨⟨0, 0, 0, 0, [], none, 0, 0⟩⟩
def PEn.e (p : PEn) : Ent := (p.k, p.base, p.en, p.sum, p.ld)
def PEn.cells (p : PEn) : List Value := [.int .i64 p.k, .int .i64 p.base, .int .i64 p.size, .int .u32 p.sum, .slice p.B p.ld.length p.c, .int .i64 p.en]
def flatN (ps : List PEn) : List Value := ps.flatMap PEn.cells
theorem flatN_append (a b : List PEn) : flatN (a ++ b) = flatN a ++ flatN b := by simp [flatN]
theorem flatN_len (ps : List PEn) : (flatN ps).length = ps.length * 6 := by
  induction ps with
  | nil => rfl
  | cons p ps ih => rw [show flatN (p :: ps) = p.cells ++ flatN ps from rfl, List.length_append, ih, List.length_cons]; simp [PEn.cells]; omega
theorem flatN_one (p : PEn) : flatN [p] = p.cells := by simp [flatN]
theorem flatN_get (ps : List PEn) (i j : Nat) (p : PEn) (h : ps[i]? = some p) (hj : j < 6) : (flatN ps)[i * 6 + j]? = p.cells[j]? := by
  induction ps generalizing i with
  | nil => simp at h
  | cons m ps ih =>
    rw [show flatN (m :: ps) = m.cells ++ flatN ps from rfl]
    have hl : m.cells.length = 6 := rfl
    cases i with
    | zero =>
      simp at h
      subst h
      rw [List.getElem?_append_left (by omega), Nat.zero_mul, Nat.zero_add]
    | succ i =>
      rw [List.getElem?_append_right (by omega), hl, show (i + 1) * 6 + j - 6 = i * 6 + j by omega]
      exact ih i (by simpa using h)
theorem PEn.one (p : PEn) : ∀ u ∈ p.cells, u.oneCell' = true := by
  intro u hu
  simp only [PEn.cells, List.mem_cons, List.not_mem_nil, or_false] at hu
  rcases hu with rfl | rfl | rfl | rfl | rfl | rfl <;> rfl
/-- The load is the call's own. -/
def PEn.Ok (base : Nat) (w : World) (p : PEn) : Prop := w.ownsRow base 5 1 (.slice p.B p.ld.length p.c) p.ld.length (bytesV p.ld)
theorem PEn.Ok.room {base : Nat} {w : World} {p : PEn} (h : p.Ok base w) : p.ld.length ≤ p.c ∧ p.c ≤ 9223372036854775807 ∧ Lies w p.B (bytesV p.ld) := by
  obtain ⟨A, c, hv, h1, h2⟩ := own_slice h
  injection hv with _ _ e3
  subst e3
  exact ⟨h1, h2, Lies.of_own h⟩
theorem own_apart2 {w : World} {b1 b2 s1 s2 n1 n2 : Nat} {e1 e2 : TypeId} {v1 v2 : Value} {xs ys : List Value} (h : w.ownsRow b1 e1 s1 v1 n1 xs) (k : w.ownsRow b2 e2 s2 v2 n2 ys) (hne : e1 ≠ e2) {j : Nat} (hj : v1.ownBlock = some j) : v2.ownBlock ≠ some j := by
  intro hk
  rcases h.2 with ⟨hv, _⟩ | ⟨g, cap, cur, hv, _, hg, _⟩
  · rw [hv] at hj; cases hj
  · rcases k.2 with ⟨hv2, _⟩ | ⟨g2, cap2, cur2, hv2, _, hg2, _⟩
    · rw [hv2] at hk; cases hk
    · rw [hv] at hj
      rw [hv2] at hk
      have e1 : g = j := by simpa [Value.ownBlock] using hj
      have e2 : g2 = j := by simpa [Value.ownBlock] using hk
      rw [e1] at hg
      rw [e2, hg] at hg2
      injection hg2 with hg2
      injection hg2 with _ h3 _
      exact hne h3
/-- Entries in a row of the call's own; their loads too. -/
structure Mn (w0 w : World) (v : Value) (ps : List PEn) : Prop where
  own : w.ownsRow w0.heap.size 122 6 v ps.length (flatN ps)
  ok : ∀ p ∈ ps, p.Ok w0.heap.size w
theorem Mn.nil (w : World) : Mn w w (.slice none 0 0) [] := ⟨World.ownsRow_nil _ _ _ _, by simp⟩
theorem Mn.frS {S : Nat → Prop} {w0 w w' : World} {v : Value} {ps : List PEn} (h : Mn w0 w v ps) (f : Fr S w w') (hS : ∀ j, S j → j < w0.heap.size) : Mn w0 w' v ps := by
  refine ⟨own_fr h.own f (fun k hk hs => ?_), fun p hp => own_fr (h.ok p hp) f (fun k hk hs => ?_)⟩
  · have h1 := (World.ownsRow.lt h.own k hk).1
    have h2 := hS k hs
    omega
  · have h1 := (World.ownsRow.lt (h.ok p hp) k hk).1
    have h2 := hS k hs
    omega
theorem Mn.frN {S : Nat → Prop} {w0 w w' : World} {v : Value} {ps : List PEn} (h : Mn w0 w v ps) (f : Fr S w w') (hS : ∀ j, j < w.heap.size → ¬ S j) : Mn w0 w' v ps :=
  ⟨own_fr h.own f (fun k hk => hS k (World.ownsRow.lt h.own k hk).2), fun p hp => own_fr (h.ok p hp) f (fun k hk => hS k (World.ownsRow.lt (h.ok p hp) k hk).2)⟩
theorem Mn.fr {w0 w w' : World} {v : Value} {ps : List PEn} (h : Mn w0 w v ps) (f : Fr (fun _ => False) w w') : Mn w0 w' v ps := h.frS f (fun _ e => e.elim)
theorem Mn.push {w0 w w6 : World} {v v6 : Value} {ps : List PEn} {p : PEn} (h : Mn w0 w v ps) (hp : p.Ok w0.heap.size w)
    (o6 : w6.ownsRow w0.heap.size 122 6 v6 (ps.length + 1) (flatN ps ++ p.cells)) (f6 : Fr (fun j => v.ownBlock = some j) w w6) : Mn w0 w6 v6 (ps ++ [p]) := by
  refine ⟨by rw [List.length_append, flatN_append, flatN_one]; exact o6, fun q hq => ?_⟩
  have hq' : q.Ok w0.heap.size w := by
    rcases List.mem_append.1 hq with h1 | h1
    · exact h.ok q h1
    · rw [List.mem_singleton.1 h1]; exact hp
  exact own_fr hq' f6 (fun k hk e => own_apart2 h.own hq' (by decide) e hk)
def zeroN : Array Value := #[.int .i64 0, .int .i64 0, .int .i64 0, .int .u32 0, .slice none 0 0, .int .i64 0]
theorem infoPE : (Tryz.prog.info? 122).map (fun i => (i.zero, i.size, i.bytes)) = some (some (.agg zeroN), 6, 64) := by kernel_rfl
theorem src_en (w : World) (p : PEn) : Src Tryz.prog 6 84 (.slice (some ⟨w.heap.size, 0, none⟩) 1 1) 1 p.cells (w.alloc (.cells #[.int .i64 p.k, .int .i64 p.base, .int .i64 p.size, .int .u32 p.sum, .slice p.B p.ld.length p.c, .int .i64 p.en] 122)) :=
  Src.ofSlice _ Tryz.underlying84 ⟨w.heap.size, 0, none⟩ 1 1 p.cells rfl (fun j u hu => by
    rw [add_off, Nat.zero_add, (Whole.new w 122 _).cell, ← Array.getElem?_toList]; exact hu) p.one
theorem Mn.slice {w0 w : World} {v : Value} {ps : List PEn} (h : Mn w0 w v ps) : ∃ A c, v = .slice A ps.length c ∧ Lies w A (flatN ps) ∧ ps.length ≤ c ∧ c ≤ maxLen := by
  obtain ⟨A, c, hv, h1, h2⟩ := own_slice h.own
  subst hv
  refine ⟨A, c, rfl, ?_, h1, h2⟩
  have ho := h.own
  rcases own_shape ho with ⟨hv, h0, hx⟩ | ⟨g, cap, hv, _, _, hg⟩
  · exact .inl hx
  · injection hv with e1 e2 e3
    subst e1; subst e3
    refine .inr ⟨g, 0, rfl, fun j u hu => ?_⟩
    have hj : j < ps.length * 6 := by
      have := (List.getElem?_eq_some_iff.1 hu).1
      rwa [flatN_len] at this
    rw [Nat.zero_add, World.ownsRow.cellAt ho j hj]
    exact hu
/-- Where the cells of an entry are. -/
theorem ens_cells {w : World} {b o : Nat} {ps : List PEn} (h : Lies w (some ⟨b, o, none⟩) (flatN ps)) {k : Nat} {p : PEn} (hp : ps[k]? = some p) : ∀ j u, p.cells[j]? = some u → w.cell? ⟨b, o + (k * 6 + j), none⟩ = some u := by
  intro j u hu
  rcases h with h | ⟨b', o', h, hc⟩
  · have := flatN_len ps
    rw [h] at this
    have := (List.getElem?_eq_some_iff.1 hp).1
    simp at *
    omega
  · injection h with h
    injection h with h1 h2
    subst h1; subst h2
    have hj : j < 6 := (List.getElem?_eq_some_iff.1 hu).1
    exact hc (k * 6 + j) u (by rw [flatN_get ps k j p hp hj]; exact hu)
theorem ens_addr {w : World} {A : Option Addr} {ps : List PEn} (h : Lies w A (flatN ps)) (hp : ps ≠ []) : ∃ b o, A = some ⟨b, o, none⟩ := by
  rcases h with h | ⟨b, o, h, _⟩
  · have := flatN_len ps
    rw [h] at this
    have : ps.length = 0 := by simp at this; omega
    exact absurd (List.length_eq_zero_iff.1 this) hp
  · exact ⟨b, o, h⟩

theorem flatK_flatN (ps : List PEn) : flatK PEn.cells 6 ps.toArray = (flatN ps).toArray := by
  refine ext_get! (by simp [flatN_len]) (fun t ht => ?_)
  have ht' : t < ps.length * 6 := by simpa using ht
  rw [get_flatK _ _ _ t (by simpa using ht')]
  have hd : t / 6 < ps.length := by omega
  have hg := flatN_get ps (t / 6) (t % 6) ps[t / 6] (List.getElem?_eq_getElem hd) (by omega)
  rw [show t / 6 * 6 + t % 6 = t by omega] at hg
  have h1 : ps.toArray[t / 6]! = ps[t / 6] := by simp [getElem!_pos, hd]
  rw [h1, Array.getElem!_eq_getD, Array.getD_eq_getD_getElem?, List.getElem?_toArray, hg]
  rw [List.getElem!_eq_getElem?_getD]
theorem putRow_own {w : World} {base g n cap q : Nat} {e : TypeId} {xs ys : List Value} (h : w.ownsRow base e 6 (.slice (some ⟨g, 0, none⟩) n cap) n xs) (hy : ys.length = n * 6) :
    (putRow id (Sort.ahead w q) g 0 ys.toArray).ownsRow base e 6 (.slice (some ⟨g, 0, none⟩) n cap) n ys := by
  rcases h.2 with ⟨e0, _⟩ | ⟨g', cap', cur, e0, hb, hg, hn, hm, hs, ht⟩
  · cases e0
  · injection e0 with e1 _ e3
    injection e1 with e1
    injection e1 with e1
    subst e1; subst e3
    refine ⟨hy, .inr ⟨g, cap, putCells id 0 ys.toArray cur, rfl, hb, ?_, hn, hm, by simpa [putCells] using hs, ?_⟩⟩
    · simp [putRow, mapBlock, Sort.ahead, Array.getElem?_modify, hg, onCells]
    · apply List.ext_getElem?
      intro j
      rw [List.getElem?_take, Array.getElem?_toList]
      by_cases hj : j < n * 6
      · have hjc : j < cur.size := by omega
        simp only [if_pos hj, putCells, Array.getElem?_mapIdx, Array.getElem?_eq_getElem hjc, Option.map_some]
        rw [if_pos (by simp; omega), List.getElem?_eq_getElem (by omega)]
        simp [getElem!_pos, show j < ys.length by omega]
      · rw [if_neg hj, List.getElem?_eq_none (by omega)]
theorem putRow_fr (w : World) (g q : Nat) (d : Array Value) : Fr (fun j => j = g) w (putRow id (Sort.ahead w q) g 0 d) :=
  ⟨rfl, rfl, rfl, by simp [putRow, mapBlock, Sort.ahead], fun k hk hn => by
    simp [putRow, mapBlock, Sort.ahead, Array.getElem?_modify, show g ≠ k from fun e => hn e.symm]⟩
theorem zero_en (w : World) : (Go.sizeOf 122).run Tryz.prog w = .ok 6 w := by kernel_rfl
/-- Entries of the call's own, turned round. -/
theorem rev_any {w0 w : World} {A : Option Addr} {n c : Nat} {ps : List PEn} (h : Mn w0 w (.slice A n c) ps) (hn : ps.length = n) (hm : n ≤ 100) :
    Calls Tryz.prog 57 #[.slice A n c] w fun e w' => e = .returned (.tuple #[]) ∧ Mn w0 w' (.slice A n c) ps.reverse ∧ Fr (fun j => Value.ownBlock (.slice A n c) = some j) w w' := by
  by_cases h0 : n = 0
  · subst h0
    have : ps = [] := List.length_eq_zero_iff.1 hn
    subst this
    have hc := AnyQ.slices_Reverse_empty revL A c w
    change Calls Tryz.prog 57 _ _ _ at hc
    refine hc.mono ?_
    rintro e w' ⟨rfl, rfl⟩
    exact ⟨rfl, h, Fr.refl _ _⟩
  · have ho := h.own
    rw [hn] at ho
    rcases own_shape ho with ⟨hv, h1, hx⟩ | ⟨g, cap, hv, hnc, hcm, hg⟩
    · exact absurd h1 h0
    · injection hv with e1 _ e3
      subst e1; subst e3
      have hH : HoldsK PEn.cells 6 w g 0 ps.toArray := by
        unfold HoldsK
        rw [flatK_flatN]
        intro j hj
        have hj' : j < n * 6 := by have := flatN_len ps; simp at hj; omega
        refine ⟨?_, World.ownsRow.frozenAt ho _⟩
        rw [Nat.zero_add, World.ownsRow.cellAt ho j hj', List.getElem?_eq_getElem (by have := flatN_len ps; omega)]
        simp [getElem!_pos, show j < (flatN ps).length by have := flatN_len ps; omega]
      have hc := AnyQ.slices_Reverse revL 6 Tryz.isAgg122 zero_en PEn.cells (fun _ => rfl) (fun p => p.one) g 0 c ps.toArray w hH (by simp; omega)
      rw [show ps.toArray.size = n by simpa using hn] at hc
      change Calls Tryz.prog 57 _ _ _ at hc
      refine hc.mono ?_
      rintro e w' ⟨rfl, q, rfl⟩
      have hrv : ps.toArray.reverse = ps.reverse.toArray := by simp
      unfold putRowK
      rw [hrv, flatK_flatN]
      have hfr := putRow_fr w g q (flatN ps.reverse).toArray
      have hlb : (Value.slice (some ⟨g, 0, none⟩) n c).ownBlock = some g := rfl
      refine ⟨rfl, ⟨?_, fun p hp => ?_⟩, hfr.mono (fun j _ e => by rw [hlb, e])⟩
      · rw [List.length_reverse, hn]
        exact putRow_own ho (by rw [flatN_len, List.length_reverse, hn])
      · have h1 := h.ok p (List.mem_reverse.1 hp)
        exact own_fr h1 hfr (fun k hk e => own_apart2 ho h1 (by decide) (by rw [hlb, e]) hk)
end Go.Proofs.YtkaeoflgnnlbeaaGreatDoor

/- What is proved: texts that stand one behind the other: Pwd. Conditions: each theorem names its own. -/
import Derived.Test.YtkaeoflgnnlbeaaGreatDoorQPwb
import Derived.Test.YtkaeoflgnnlbeaaGreatDoorPc
import Derived.Test.YtkaeoflgnnlbeaaGreatDoorQPrd
import Derived.Test.YtkaeoflgnnlbeaaGreatDoorDe
import Derived.Deep.MidRow
import Derived.Great.BuildSlice
import Derived.Great.FillDense
/- What is proved: what a packer holds, and how its parts change one by one. Conditions: none; it is the caller's. -/
namespace Go.Proofs.YtkaeoflgnnlbeaaGreatDoor
open Go.RowKit
set_option linter.unusedVariables false

/-- A place: an id's cells, where an entry begins, its load's sum. -/
structure PPl where
  id : Array Value
  at' : Nat
  sum : Int
def PPl.cells (p : PPl) : List Value := p.id.toList ++ [.int .i64 p.at', .int .u32 p.sum]
structure PPl.Ok (p : PPl) : Prop where
  size : p.id.size = 32
  one : ∀ u ∈ p.id.toList, u.oneCell' = true
theorem PPl.Ok.len {p : PPl} (h : p.Ok) : p.cells.length = 34 := by unfold PPl.cells; simp [h.size]
theorem PPl.Ok.one' {p : PPl} (h : p.Ok) : ∀ u ∈ p.cells, u.oneCell' = true := by
  intro u hu
  unfold PPl.cells at hu
  rcases List.mem_append.1 hu with h1 | h1
  · exact h.one u h1
  · simp only [List.mem_cons, List.not_mem_nil, or_false] at h1
    rcases h1 with rfl | rfl <;> rfl
def flatL (ps : List PPl) : List Value := ps.flatMap PPl.cells
theorem flatL_append (a b : List PPl) : flatL (a ++ b) = flatL a ++ flatL b := by simp [flatL]
theorem flatL_one (p : PPl) : flatL [p] = p.cells := by simp [flatL]
theorem flatL_len (ps : List PPl) (h : ∀ p ∈ ps, p.Ok) : (flatL ps).length = ps.length * 34 := by
  induction ps with
  | nil => rfl
  | cons p ps ih =>
    rw [show flatL (p :: ps) = p.cells ++ flatL ps from rfl, List.length_append, ih (fun q hq => h q (by simp [hq])), List.length_cons, (h p (by simp)).len]
    omega
theorem flatL_get (ps : List PPl) (h : ∀ p ∈ ps, p.Ok) (i j : Nat) (p : PPl) (hp : ps[i]? = some p) (hj : j < 34) : (flatL ps)[i * 34 + j]? = p.cells[j]? := by
  induction ps generalizing i with
  | nil => simp at hp
  | cons m ps ih =>
    rw [show flatL (m :: ps) = m.cells ++ flatL ps from rfl]
    have hl : m.cells.length = 34 := (h m (by simp)).len
    cases i with
    | zero =>
      simp at hp
      subst hp
      rw [List.getElem?_append_left (by omega), Nat.zero_mul, Nat.zero_add]
    | succ i =>
      rw [List.getElem?_append_right (by omega), hl, show (i + 1) * 34 + j - 34 = i * 34 + j by omega]
      exact ih (fun q hq => h q (by simp [hq])) i (by simpa using hp)
theorem pl_at (p : PPl) (h : p.Ok) : p.cells[32]? = some (.int .i64 p.at') := by
  unfold PPl.cells
  rw [List.getElem?_append_right (by simp [h.size])]
  simp [h.size]

/-- What stands behind a packer's writer. -/
def pkR (IA : Option Addr) (n c : Nat) (chain : Int) (vp vd : Value) : List Value := [.slice IA n c, .int .i64 chain, vp, vd]
/-- A packer at block g: its bytes, its objects, the places and the depths so far; all its own lies from base on. -/
structure Pk (base : Nat) (w : World) (g : Nat) (v vp vd : Value) (xs : List UInt8) (IA : Option Addr) (n c : Nat) (chain : Int) (pls : List PPl) (ds : List Int) : Prop where
  wr : Wr (some (pkR IA n c chain vp vd)) w g v xs
  lo : base ≤ g
  vo : ∀ j, v.ownBlock = some j → base ≤ j
  ok : ∀ p ∈ pls, p.Ok
  pl : w.ownsRow base 56 34 vp pls.length (flatL pls)
  dp : w.ownsRow base 3 1 vd ds.length (intsV ds)
section
variable {base : Nat} {w w' : World} {g : Nat} {v vp vd v' vp' vd' : Value} {xs xs' : List UInt8} {IA : Option Addr} {n c : Nat} {chain : Int} {pls : List PPl} {ds : List Int}
theorem Pk.whole (h : Pk base w g v vp vd xs IA n c chain pls ds) : Whole w g 70 (pkC v IA n c chain vp vd) := h.wr.1
theorem Pk.cells (h : Pk base w g v vp vd xs IA n c chain pls ds) : w.cell? ⟨g, 0, none⟩ = some v ∧ w.cell? ⟨g, 1, none⟩ = some (.slice IA n c) ∧ w.cell? ⟨g, 2, none⟩ = some (.int .i64 chain) ∧ w.cell? ⟨g, 3, none⟩ = some vp ∧ w.cell? ⟨g, 4, none⟩ = some vd :=
  ⟨by rw [h.whole.cell]; rfl, by rw [h.whole.cell]; rfl, by rw [h.whole.cell]; rfl, by rw [h.whole.cell]; rfl, by rw [h.whole.cell]; rfl⟩
theorem Pk.frF (h : Pk base w g v vp vd xs IA n c chain pls ds) (f : Fr (fun _ => False) w w') : Pk base w' g v vp vd xs IA n c chain pls ds :=
  ⟨⟨h.wr.1.fr f (fun e => e), own_fr h.wr.2 f (fun _ _ e => e)⟩, h.lo, h.vo, h.ok, own_fr h.pl f (fun _ _ e => e), own_fr h.dp f (fun _ _ e => e)⟩
theorem Pk.wrote (h : Pk base w g v vp vd xs IA n c chain pls ds) (hb : base ≤ w.heap.size) (hw : Wr (some (pkR IA n c chain vp vd)) w' g v' xs') (hs : WSt w g v w' v') :
    Pk base w' g v' vp vd xs' IA n c chain pls ds ∧ Fr (fun j => base ≤ j) w w' := by
  have hg : Whole w g 70 (pkC v IA n c chain vp vd) := h.whole
  refine ⟨⟨hw, h.lo, fun j hj => ?_, h.ok, own_fr h.pl hs.fr (fun j hj e => ?_), own_fr h.dp hs.fr (fun j hj e => ?_)⟩, hs.fr.mono (fun j _ e => ?_)⟩
  · rcases hs.own with e | ⟨b, e, hb2⟩
    · exact h.vo j (by rw [← e]; exact hj)
    · rw [hj] at e; injection e with e; omega
  · rcases e with e | e
    · exact own_apart h.pl hg (by decide) (by rw [hj, e])
    · exact own_apart2 h.wr.2 h.pl (by decide) e hj
  · rcases e with e | e
    · exact own_apart h.dp hg (by decide) (by rw [hj, e])
    · exact own_apart2 h.wr.2 h.dp (by decide) e hj
  · rcases e with e | e
    · rw [e]; exact h.lo
    · exact h.vo j e
theorem Pk.putPl {w1 : World} {q : PPl} (h : Pk base w g v vp vd xs IA n c chain pls ds) (hq : q.Ok) (o1 : w1.ownsRow base 56 34 vp' (pls.length + 1) (flatL pls ++ q.cells)) (f : Fr (fun j => vp.ownBlock = some j) w w1) :
    Pk base (w1.setCell ⟨g, 3, none⟩ vp') g v vp' vd xs IA n c chain (pls ++ [q]) ds ∧ Fr (fun j => base ≤ j) w (w1.setCell ⟨g, 3, none⟩ vp') := by
  have hg : Whole w g 70 (pkC v IA n c chain vp vd) := h.whole
  have hg1 : Whole w1 g 70 (pkC v IA n c chain vp vd) := hg.fr f (fun e => own_apart h.pl hg (by decide) e)
  have f2 : Fr (fun j => j = g) w1 (w1.setCell ⟨g, 3, none⟩ vp') := Fr.setCell (S := fun j => j = g) (p := ⟨g, 3, none⟩) (Fr.refl _ w1) (fun _ => rfl) _
  have hb1 := own_fr h.wr.2 f (fun j hj e => own_apart2 h.pl h.wr.2 (by decide) e hj)
  have hd1 := own_fr h.dp f (fun j hj e => own_apart2 h.pl h.dp (by decide) e hj)
  refine ⟨⟨⟨hg1.set 3 vp', own_fr hb1 f2 (fun j hj e => own_apart hb1 hg1 (by decide) (by rw [hj, e]))⟩, h.lo, h.vo, fun p hp => ?_, ?_, own_fr hd1 f2 (fun j hj e => own_apart hd1 hg1 (by decide) (by rw [hj, e]))⟩, ?_⟩
  · rcases List.mem_append.1 hp with h1 | h1
    · exact h.ok p h1
    · rw [List.mem_singleton.1 h1]; exact hq
  · rw [List.length_append, flatL_append, flatL_one]
    exact own_fr o1 f2 (fun j hj e => own_apart o1 hg1 (by decide) (by rw [hj, e]))
  · refine (f.mono (fun j _ e => (World.ownsRow.lt h.pl j e).1)).trans f2 (fun j _ e => by rw [e]; exact h.lo)
theorem Pk.putDp {w1 : World} {d : Int} (h : Pk base w g v vp vd xs IA n c chain pls ds) (o1 : w1.ownsRow base 3 1 vd' (ds.length + 1) (intsV ds ++ [.int .i64 d])) (f : Fr (fun j => vd.ownBlock = some j) w w1) :
    Pk base (w1.setCell ⟨g, 4, none⟩ vd') g v vp vd' xs IA n c chain pls (ds ++ [d]) ∧ Fr (fun j => base ≤ j) w (w1.setCell ⟨g, 4, none⟩ vd') := by
  have hg : Whole w g 70 (pkC v IA n c chain vp vd) := h.whole
  have hg1 : Whole w1 g 70 (pkC v IA n c chain vp vd) := hg.fr f (fun e => own_apart h.dp hg (by decide) e)
  have f2 : Fr (fun j => j = g) w1 (w1.setCell ⟨g, 4, none⟩ vd') := Fr.setCell (S := fun j => j = g) (p := ⟨g, 4, none⟩) (Fr.refl _ w1) (fun _ => rfl) _
  have hb1 := own_fr h.wr.2 f (fun j hj e => own_apart2 h.dp h.wr.2 (by decide) e hj)
  have hp1 := own_fr h.pl f (fun j hj e => own_apart2 h.dp h.pl (by decide) e hj)
  refine ⟨⟨⟨hg1.set 4 vd', own_fr hb1 f2 (fun j hj e => own_apart hb1 hg1 (by decide) (by rw [hj, e]))⟩, h.lo, h.vo, h.ok, own_fr hp1 f2 (fun j hj e => own_apart hp1 hg1 (by decide) (by rw [hj, e])), ?_⟩, ?_⟩
  · rw [List.length_append, intsV_append]
    exact own_fr o1 f2 (fun j hj e => own_apart o1 hg1 (by decide) (by rw [hj, e]))
  · refine (f.mono (fun j _ e => (World.ownsRow.lt h.dp j e).1)).trans f2 (fun j _ e => by rw [e]; exact h.lo)
end
theorem sizeID : (Tryz.prog.info? 48).map (·.size) = some 32 := by kernel_rfl
def zero32P : Array Value := (List.replicate 32 (Value.int .u8 0)).toArray
def zeroPl : Array Value := (List.replicate 32 (Value.int .u8 0) ++ [Value.int .i64 0, Value.int .u32 0]).toArray
theorem infoPl : (Tryz.prog.info? 56).map (fun i => (i.zero, i.size, i.bytes)) = some (some (.agg zeroPl), 34, 48) := by kernel_rfl
theorem zeroPl_cells : (Value.agg zeroPl).cells.size = 34 := by kernel_rfl
set_option maxRecDepth 100000 in
theorem build_pl0 (id : List Value) (a : Nat) (s : Int) (hi : id.length = 32) (w : World) : (Instr.build 56 #[(0, .agg id.toArray), (1, .int .i64 a), (2, .int .u32 s)]).run Tryz.prog w = .ok (.agg (id ++ [Value.int .i64 a, Value.int .u32 s]).toArray) w := by
  rcases id with _ | ⟨i0, _ | ⟨i1, _ | ⟨i2, _ | ⟨i3, _ | ⟨i4, _ | ⟨i5, _ | ⟨i6, _ | ⟨i7, _ | ⟨i8, _ | ⟨i9, _ | ⟨i10, _ | ⟨i11, _ | ⟨i12, _ | ⟨i13, _ | ⟨i14, _ | ⟨i15, _ | ⟨i16, _ | ⟨i17, _ | ⟨i18, _ | ⟨i19, _ | ⟨i20, _ | ⟨i21, _ | ⟨i22, _ | ⟨i23, _ | ⟨i24, _ | ⟨i25, _ | ⟨i26, _ | ⟨i27, _ | ⟨i28, _ | ⟨i29, _ | ⟨i30, _ | ⟨i31, _ | ⟨i32, id⟩⟩⟩⟩⟩⟩⟩⟩⟩⟩⟩⟩⟩⟩⟩⟩⟩⟩⟩⟩⟩⟩⟩⟩⟩⟩⟩⟩⟩⟩⟩⟩⟩
  all_goals first | (simp only [List.length_cons, List.length_nil] at hi; omega) | kernel_rfl
theorem build_pl (q : PPl) (hq : q.id.size = 32) (w : World) : (Instr.build 56 #[(0, .agg q.id), (1, .int .i64 q.at'), (2, .int .u32 q.sum)]).run Tryz.prog w = .ok (.agg q.cells.toArray) w := by
  have := build_pl0 q.id.toList q.at' q.sum (by simpa using hq) w
  rwa [Array.toArray_toList] at this
end Go.Proofs.YtkaeoflgnnlbeaaGreatDoor

/- What is proved: what the walks of this seat need of layers below, merged out of the texts Dea (of each just what is needed). Conditions: each theorem names its own. -/
import Derived.Test.YtkaeoflgnnlbeaaGreatDoorDa
import Derived.Test.YtkaeoflgnnlbeaaGreatDoorDas
/- What is proved: what an op of a script is, where its cells lie, and whether a script may be, plainly. Conditions: none; the cells' types are named by no program. -/
namespace Go.Proofs.YtkaeoflgnnlbeaaGreatDoor
open Go.RowKit
set_option linter.unusedVariables false
/-- An op: a part of the base, or new bytes. -/
structure DOp where
  copy : Bool
  frm : Int
  n : Int
  b : List UInt8
instance : Inhabited DOp := ⟨⟨false, 0, 0, []⟩⟩
theorem DOp.ext' {a b : DOp} (h1 : a.copy = b.copy) (h2 : a.frm = b.frm) (h3 : a.n = b.n) (h4 : a.b = b.b) : a = b := by
  cases a; cases b; simp_all
def DOp.size (o : DOp) : Int := if o.copy = true then o.n else (o.b.length : Int)
/-- May an op be one over a base of so many bytes? -/
def DOp.Right (base : Int) (o : DOp) : Prop := (o.copy = true ∧ 1 ≤ o.n ∧ 0 ≤ o.frm ∧ o.frm ≤ base - o.n ∧ o.b.length = 0) ∨ (o.copy = false ∧ 1 ≤ o.b.length ∧ o.frm = 0 ∧ o.n = 0)
instance (base : Int) (o : DOp) : Decidable (o.Right base) := by unfold DOp.Right; infer_instance
theorem DOp.Right.pos {base : Int} {o : DOp} (h : o.Right base) : 1 ≤ o.size := by
  unfold DOp.size
  rcases h with ⟨h1, h2, _⟩ | ⟨h1, h2, _⟩
  · rw [if_pos h1]; exact h2
  · rw [if_neg (by simp [h1])]; omega
/-- What is left of so many bytes behind the ops: none, if one may not be or lays too much. -/
def restO (base : Int) : Int → List DOp → Option Int
  | left, [] => some left
  | left, o :: os => if o.Right base ∧ o.size ≤ left then restO base (left - o.size) os else none
def chkS (b t : Int) (os : List DOp) : Int := if (0 ≤ b ∧ b ≤ 4000) ∧ (0 ≤ t ∧ t ≤ 4000) ∧ restO b t os = some 0 then 0 else 2
theorem restO_cons (base left : Int) (o : DOp) (os : List DOp) : restO base left (o :: os) = if o.Right base ∧ o.size ≤ left then restO base (left - o.size) os else none := rfl
/-- An op and where its bytes lie. -/
structure POp where
  o : DOp
  B : Option Addr
  c : Nat
def POp.cells (p : POp) : List Value := [.bool p.o.copy, .int .i64 p.o.frm, .int .i64 p.o.n, .slice p.B p.o.b.length p.c]
def flatP (ps : List POp) : List Value := ps.flatMap POp.cells
theorem flatP_append (a b : List POp) : flatP (a ++ b) = flatP a ++ flatP b := by simp [flatP]
theorem flatP_len (ps : List POp) : (flatP ps).length = ps.length * 4 := by
  induction ps with
  | nil => rfl
  | cons p ps ih => rw [show flatP (p :: ps) = p.cells ++ flatP ps from rfl, List.length_append, ih, List.length_cons]; simp [POp.cells]; omega
theorem flatP_one (p : POp) : flatP [p] = p.cells := by simp [flatP]
theorem flatP_get (ps : List POp) (i j : Nat) (p : POp) (h : ps[i]? = some p) (hj : j < 4) : (flatP ps)[i * 4 + j]? = p.cells[j]? := by
  induction ps generalizing i with
  | nil => simp at h
  | cons m ps ih =>
    rw [show flatP (m :: ps) = m.cells ++ flatP ps from rfl]
    have hl : m.cells.length = 4 := rfl
    cases i with
    | zero =>
      simp at h
      subst h
      rw [List.getElem?_append_left (by omega), Nat.zero_mul, Nat.zero_add]
    | succ i =>
      rw [List.getElem?_append_right (by omega), hl, show (i + 1) * 4 + j - 4 = i * 4 + j by omega]
      exact ih i (by simpa using h)
theorem POp.one (p : POp) : ∀ u ∈ p.cells, u.oneCell' = true := by
  intro u hu
  simp only [POp.cells, List.mem_cons, List.not_mem_nil, or_false] at hu
  rcases hu with rfl | rfl | rfl | rfl <;> rfl
def opsO (ps : List POp) : List DOp := ps.map POp.o
theorem opsO_append (a b : List POp) : opsO (a ++ b) = opsO a ++ opsO b := by simp [opsO]
/-- A number that is an int; what an op's numbers are. -/
def I64 (x : Int) : Prop := -9223372036854775808 ≤ x ∧ x ≤ 9223372036854775807
structure POp.Ok (w : World) (p : POp) : Prop where
  f : I64 p.o.frm
  n : I64 p.o.n
  le : p.o.b.length ≤ p.c
  cap : p.c ≤ 9223372036854775807
  lies : Lies w p.B (bytesV p.o.b)
/-- A script's ops lie at A. -/
structure Scr (w : World) (A : Option Addr) (c : Nat) (ps : List POp) : Prop where
  lies : Lies w A (flatP ps)
  ok : ∀ p ∈ ps, p.Ok w
  le : ps.length ≤ c
  cap : c ≤ 9223372036854775807
section
variable {w w' : World} {A : Option Addr} {c : Nat} {ps : List POp} {p : POp}
theorem POp.Ok.fr (h : p.Ok w) (f : Fr (fun _ => False) w w') : p.Ok w' := ⟨h.f, h.n, h.le, h.cap, h.lies.fr f (fun _ _ e => e)⟩
theorem Scr.fr (h : Scr w A c ps) (f : Fr (fun _ => False) w w') : Scr w' A c ps := ⟨h.lies.fr f (fun _ _ e => e), fun p hp => (h.ok p hp).fr f, h.le, h.cap⟩
theorem Scr.below (h : Scr w A c ps) (f : Below w.heap.size w w') : Scr w' A c ps := h.fr (Fr.of_below f)
theorem Scr.addr (h : Scr w A c ps) {k : Nat} (hk : k < ps.length) : ∃ b o, A = some ⟨b, o, none⟩ := by
  rcases h.lies with h0 | ⟨b, o, h0, _⟩
  · have := flatP_len ps
    rw [h0] at this
    simp at this
    omega
  · exact ⟨b, o, h0⟩
theorem flat_cells {b o k : Nat} (h : Lies w (some ⟨b, o, none⟩) (flatP ps)) (hp : ps[k]? = some p) :
    w.cell? ⟨b, o + k * 4, none⟩ = some (.bool p.o.copy) ∧ w.cell? ⟨b, o + k * 4 + 1, none⟩ = some (.int .i64 p.o.frm) ∧ w.cell? ⟨b, o + k * 4 + 2, none⟩ = some (.int .i64 p.o.n) ∧ w.cell? ⟨b, o + k * 4 + 3, none⟩ = some (.slice p.B p.o.b.length p.c) := by
  rcases h with h | ⟨b', o', h, hc⟩
  · have := flatP_len ps
    rw [h] at this
    have := (List.getElem?_eq_some_iff.1 hp).1
    simp at *
    omega
  · injection h with h
    injection h with h1 h2
    subst h1; subst h2
    have g := fun j (hj : j < 4) => flatP_get ps k j p hp hj
    refine ⟨?_, ?_, ?_, ?_⟩
    · exact hc (k * 4) _ (by rw [show k * 4 = k * 4 + 0 by omega, g 0 (by omega)]; rfl)
    · rw [Nat.add_assoc]; exact hc (k * 4 + 1) _ (by rw [g 1 (by omega)]; rfl)
    · rw [Nat.add_assoc]; exact hc (k * 4 + 2) _ (by rw [g 2 (by omega)]; rfl)
    · rw [Nat.add_assoc]; exact hc (k * 4 + 3) _ (by rw [g 3 (by omega)]; rfl)
theorem Scr.cells {b o k : Nat} (h : Scr w (some ⟨b, o, none⟩) c ps) (hp : ps[k]? = some p) :
    w.cell? ⟨b, o + k * 4, none⟩ = some (.bool p.o.copy) ∧ w.cell? ⟨b, o + k * 4 + 1, none⟩ = some (.int .i64 p.o.frm) ∧ w.cell? ⟨b, o + k * 4 + 2, none⟩ = some (.int .i64 p.o.n) ∧ w.cell? ⟨b, o + k * 4 + 3, none⟩ = some (.slice p.B p.o.b.length p.c) := flat_cells h.lies hp
theorem Scr.at_ok (h : Scr w A c ps) {k : Nat} (hp : ps[k]? = some p) : p.Ok w := h.ok p (List.mem_of_getElem? hp)
theorem opsO_drop {k : Nat} (hp : ps[k]? = some p) : (opsO ps).drop k = p.o :: (opsO ps).drop (k + 1) := by
  have hk := (List.getElem?_eq_some_iff.1 hp).1
  have he := (List.getElem?_eq_some_iff.1 hp).2
  rw [List.drop_eq_getElem_cons (by simpa [opsO] using hk)]
  congr 1
  simp [opsO, he]
end
end Go.Proofs.YtkaeoflgnnlbeaaGreatDoor

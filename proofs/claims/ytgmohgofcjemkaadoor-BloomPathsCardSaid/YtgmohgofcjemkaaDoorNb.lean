/- What is proved: what the walks of this seat need of layers below, merged out of the texts Nb (of each just what is needed). Conditions: each theorem names its own. -/
import Derived.Test.YtgmohgofcjemkaaDoorBk
import Derived.Test.YtgmohgofcjemkaaDoorNa
/- What is proved: a key's places, a filter's bits, whether a filter has a key, by the document. Conditions: the cells are there. -/
namespace Go.Proofs.YtgmohgofcjemkaaDoor
open Go.RowKit Go.Shelf
set_option linter.unusedVariables false
/-- The i-th bit of a key with two hashes, in a filter of so many. -/
def plI (x y : Int) (many i : Nat) : Nat := ((x + (i : Int) * y) % 4294967296 % (many : Int)).toNat
theorem plI_nat (x y : Int) (many i : Nat) (h : 0 < many) : (x + (i : Int) * y) % 4294967296 % (many : Int) = (plI x y many i : Int) ∧ plI x y many i < many := by
  unfold plI
  obtain ⟨z, hz⟩ : ∃ z, (x + (i : Int) * y) % 4294967296 = z := ⟨_, rfl⟩
  rw [hz]
  have h1 : 0 ≤ z % (many : Int) := Int.emod_nonneg _ (by omega)
  have h2 : z % (many : Int) < (many : Int) := Int.emod_lt_of_pos _ (by omega)
  omega
def plT (x y : Int) (many k : Nat) : List Nat := (List.range k).map (plI x y many)
theorem plT_succ (x y : Int) (many k : Nat) : plT x y many (k + 1) = plT x y many k ++ [plI x y many k] := by
  unfold plT
  rw [List.range_succ, List.map_append, List.map_cons, List.map_nil]
theorem plT_len (x y : Int) (many k : Nat) : (plT x y many k).length = k := by simp [plT]
theorem plT_get (x y : Int) (many k i : Nat) (h : i < k) : (plT x y many k).getD i 0 = plI x y many i := by
  unfold plT
  rw [List.getD_eq_getElem?_getD, List.getElem?_map, List.getElem?_range h, Option.map_some, Option.getD_some]
/-- A key's two hashes. -/
def hsA (key : List UInt8) : Int := hashI 691726191 key
def hsB (key : List UInt8) : Int := hashI 2120511020 key
def plL (key : List UInt8) (many : Nat) : List Nat := plT (hsA key) (hsB key) many 7
end Go.Proofs.YtgmohgofcjemkaaDoor

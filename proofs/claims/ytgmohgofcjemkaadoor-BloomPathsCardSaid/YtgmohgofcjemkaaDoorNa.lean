/- What is proved: what the walks of this seat need of layers below, merged out of the texts Na (of each just what is needed). Conditions: each theorem names its own. -/
import Derived.Deep.DeepFit
import Derived.Shelf.Abstract
import Derived.Deep.CutBlock
import Derived.Deep.RegionWith
import Derived.BigQuiet
import Derived.WalkSpells
import Derived.WalkLawsBesides
import Derived.Test.YtgmohgofcjemkaaDoorBb
/- What is proved: the document's hash of a text. Conditions: a text of at most 2^62 bytes. -/
namespace Go.Proofs.YtgmohgofcjemkaaDoor
open Go.RowKit Go.Shelf
set_option linter.unusedVariables false
/-- x turned left by n. -/
def rotL (x : Int) (n : Nat) : Int := bits .or .u32 (x * 2 ^ n % 4294967296) (x / 2 ^ (32 - n))
def mul32 (x c : Int) : Int := x * c % 4294967296
def xor32 (x y : Int) : Int := bits .xor .u32 x y
/-- Four bytes, as they go into a hash. -/
def mixI (k : Int) : Int := mul32 (rotL (mul32 k 3432918353) 15) 461845907
/-- Bytes as a number, the lowest first. -/
def leI : List UInt8 → Int
  | [] => 0
  | b :: l => leI l * 256 % 4294967296 + b.toNat
def eatI (h : Int) (l : List UInt8) : Int := (mul32 (rotL (xor32 h (mixI (leI l))) 13) 5 + 3864292196) % 4294967296
/-- What the bytes make of h. -/
def hashB : Nat → Int → List UInt8 → Int
  | 0, h, _ => h
  | f + 1, h, l => if 4 ≤ l.length then hashB f (eatI h (l.take 4)) (l.drop 4) else if l = [] then h else xor32 h (mixI (leI l))
def fin1 (h : Int) (n : Nat) : Int := xor32 h ((n : Int) % 4294967296)
def fin2 (h : Int) : Int := mul32 (xor32 h (h / 65536)) 2246822507
def fin3 (h : Int) : Int := mul32 (xor32 h (h / 8192)) 3266489909
def fin4 (h : Int) : Int := xor32 h (h / 65536)
def hashI (seed : Int) (l : List UInt8) : Int := fin4 (fin3 (fin2 (fin1 (hashB (l.length + 1) seed l) l.length)))
theorem xor_range (a b : Int) : 0 ≤ bits .xor .u32 a b ∧ bits .xor .u32 a b < 4294967296 := by
  unfold bits
  rw [IntKind.wrap_u32]
  omega
theorem xor_div (a b : Int) : (bits .xor .u32 a b).tdiv 65536 % 4294967296 = bits .xor .u32 a b / 65536 := by
  obtain ⟨h1, h2⟩ := xor_range a b
  rw [Int.tdiv_eq_ediv_of_nonneg h1]
  omega
theorem hashB_four {f : Nat} {h : Int} {l : List UInt8} (hl : 4 ≤ l.length) : hashB (f + 1) h l = hashB f (eatI h (l.take 4)) (l.drop 4) := by rw [hashB, if_pos hl]
theorem hashB_nil {f : Nat} {h : Int} : hashB f h [] = h := by
  cases f with
  | zero => rfl
  | succ f => rw [hashB, if_neg (by simp), if_pos rfl]
theorem hashB_rest {f : Nat} {h : Int} {l : List UInt8} (hl : l.length < 4) (h0 : l ≠ []) : hashB (f + 1) h l = xor32 h (mixI (leI l)) := by rw [hashB, if_neg (by omega), if_neg h0]
theorem leI_step {q : List UInt8} {m : Nat} (h : m < q.length) : leI (q.drop m) = leI (q.drop (m + 1)) * 256 % 4294967296 + (q.getD m 0).toNat := by
  rw [List.drop_eq_getElem_cons h, leI, List.getD_eq_getElem?_getD, List.getElem?_eq_getElem h]; rfl
end Go.Proofs.YtgmohgofcjemkaaDoor

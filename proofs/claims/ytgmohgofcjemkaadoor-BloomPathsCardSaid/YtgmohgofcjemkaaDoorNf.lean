/- What is proved: what the walks of this seat need of layers below, merged out of the texts Nf (of each just what is needed). Conditions: each theorem names its own. -/
import Derived.Test.YtgmohgofcjemkaaDoorBe
import Derived.Test.YtgmohgofcjemkaaDoorNc
import Derived.Test.YtgmohgofcjemkaaDoorNd
/- What is proved: a filter made, by the document. Conditions: the list's cells are there; at most two thousand keys. -/
namespace Go.Proofs.YtgmohgofcjemkaaDoor
open Go.RowKit Go.Sort Go.Shelf
set_option linter.unusedVariables false
theorem OwnB.weakN {w0 w1 w : World} {v : Value} {l : List UInt8} (h : OwnB w1 w v l) (f : Fr (fun _ => False) w0 w1) : OwnB w0 w v l := by
  refine ⟨⟨h.1.1, ?_⟩, f.trans h.2 (fun _ _ e => e)⟩
  rcases h.1.2 with h0 | ⟨g, cap, cur, hv, hb, r⟩
  · exact .inl h0
  · exact .inr ⟨g, cap, cur, hv, Nat.le_trans f.size hb, r⟩
theorem wrap_addN (B j x : Nat) (h : B + j = x) (hx : x ≤ 100000) : wrap64 ((B : Int) + (j : Int)) = (x : Int) := by unfold wrap64; omega
theorem lt_addN {B j x t M : Nat} (h : B + j = x) (hj : 7 - t = j) (hM : B + 8 ≤ M) : x < M := by omega
theorem insN_sub {out : List (List UInt8)} {n x : List UInt8} (h : x ∈ insN out n) : x = n ∨ x ∈ out := by
  unfold insN at h
  split at h
  · exact .inr h
  · rw [List.mem_append, List.mem_cons] at h
    rcases h with h | h | h
    · exact .inr (List.mem_of_mem_take h)
    · exact .inl h
    · exact .inr (List.mem_of_mem_drop h)
theorem unl_sub (l : List (List UInt8)) : ∀ x ∈ unl l, x ∈ l := by
  suffices h : ∀ (l out : List (List UInt8)) (x : List UInt8), x ∈ l.foldl insN out → x ∈ out ∨ x ∈ l by
    intro x hx
    rcases h l [] x hx with h | h
    · simp at h
    · exact h
  intro l
  induction l with
  | nil => intro out x hx; exact .inl hx
  | cons y l ih =>
    intro out x hx
    rcases ih (insN out y) x hx with h | h
    · rcases insN_sub h with h | h
      · exact .inr (by simp [h])
      · exact .inl h
    · exact .inr (by simp [h])
/-- How many bytes a filter has. -/
def szK (n : Nat) : Nat := if n = 0 then 1 else (10 * n + 7) / 8
/-- Which bits keys have. -/
def stK (l : List (List UInt8)) (M j : Nat) : Bool := l.any fun key => decide (j ∈ plL key M)
theorem stK_snoc (l : List (List UInt8)) (key : List UInt8) (M j : Nat) : stK (l ++ [key]) M j = (stK l M j || decide (j ∈ plL key M)) := by
  unfold stK
  rw [List.any_append, List.any_cons, List.any_nil, Bool.or_false]
/-- A byte out of eight bits, from the highest on. -/
def cB (st : Nat → Bool) (base : Nat) : Nat → Nat
  | 0 => 0
  | t + 1 => 2 * cB st base t + (if st (base + (7 - t)) = true then 1 else 0)
theorem cB_lt (st : Nat → Bool) (base : Nat) : ∀ t, cB st base t < 2 ^ t
  | 0 => by simp [cB]
  | t + 1 => by
    have := cB_lt st base t
    rw [cB, Nat.pow_succ]
    split <;> omega
def fltB (st : Nat → Bool) (k : Nat) : List UInt8 := (List.range k).map fun i => UInt8.ofNat (cB st (8 * i) 8)
theorem fltB_succ (st : Nat → Bool) (k : Nat) : fltB st (k + 1) = fltB st k ++ [UInt8.ofNat (cB st (8 * k) 8)] := by
  unfold fltB
  rw [List.range_succ, List.map_append, List.map_cons, List.map_nil]
theorem fltB_len (st : Nat → Bool) (k : Nat) : (fltB st k).length = k := by simp [fltB]
/-- A filter of keys. -/
def mkF (keys : List (List UInt8)) : List UInt8 := if 200 < (unl keys).length then [255] else fltB (stK (unl keys) (8 * szK (unl keys).length)) (szK (unl keys).length)
theorem mem_snocN {l : List Nat} {i j : Nat} (h : i < l.length) : (j ∈ l.take (i + 1)) ↔ j ∈ l.take i ∨ j = l.getD i 0 := by
  rw [List.take_add_one, List.getElem?_eq_getElem h, List.getD_eq_getElem?_getD, List.getElem?_eq_getElem h, List.mem_append]
  simp
end Go.Proofs.YtgmohgofcjemkaaDoor

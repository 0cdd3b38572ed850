/- What is proved: the script that is made of two texts may be, makes the one of the other, and its bytes are few; plainly. Conditions: none; no program is named. -/
import Derived.Test.YthjfkeploofblaaDeg
import Derived.Test.YthjfkeploofblaaDem
import Derived.Test.YthjfkeploofblaaDpa
namespace Go.Proofs.Ythjfkeploofblaa
open Go.RowKit
set_option linter.unusedVariables false

theorem restO_append (base left : Int) (a b : List DOp) : restO base left (a ++ b) = (restO base left a).bind fun r => restO base r b := by
  induction a generalizing left with
  | nil => rfl
  | cons o a ih =>
    rw [List.cons_append, restO_cons, restO_cons]
    split
    · exact ih _
    · rfl
theorem restO_one {base left : Int} {o : DOp} (h : o.Right base) (hs : o.size ≤ left) : restO base left [o] = some (left - o.size) := by
  rw [restO_cons, if_pos ⟨h, hs⟩]; rfl
/-- Ops that have laid the target's beginning. -/
structure Begun (base target : List UInt8) (k : Nat) (os : List DOp) : Prop where
  rest : restO base.length target.length os = some ((target.length : Int) - k)
  app : os.flatMap (appO base) = target.take k
theorem Begun.nil (base target : List UInt8) : Begun base target 0 [] := ⟨by simp [restO], by simp⟩
theorem Begun.copy {base target : List UInt8} {k : Nat} {os : List DOp} (h : Begun base target k os) (hk : k < target.length) (h6 : 6 ≤ (bestO base (target.drop k)).2) :
    Begun base target (k + (bestO base (target.drop k)).2) (os ++ [copyO (bestO base (target.drop k)).1 (bestO base (target.drop k)).2]) ∧ k + (bestO base (target.drop k)).2 ≤ target.length := by
  obtain ⟨⟨f, n⟩, hb⟩ : ∃ r, bestO base (target.drop k) = r := ⟨_, rfl⟩
  have h1 := bestK_le base (target.drop k) base.length (Nat.le_refl _)
  have h2 := bestK_is base (target.drop k) base.length
  rw [show bestK base (target.drop k) base.length = (f, n) from hb] at h1 h2
  rw [hb] at h6 ⊢
  simp only [List.length_drop] at h1 h2 h6 ⊢
  have hn : n = lcp (base.drop f) (target.drop k) := h2.resolve_right (by omega)
  have hr : (copyO f n).Right base.length := Or.inl ⟨rfl, by simp only [copyO]; omega, by simp only [copyO]; omega, by simp only [copyO]; omega, rfl⟩
  refine ⟨⟨?_, ?_⟩, by omega⟩
  · rw [restO_append, h.rest, Option.bind_some, restO_one hr (by simp only [DOp.size, copyO, if_true]; omega)]
    simp only [DOp.size, copyO, if_true]
    congr 1
    omega
  · have e := lcp_take (base.drop f) (target.drop k)
    rw [← hn] at e
    rw [List.flatMap_append, h.app, List.flatMap_singleton]
    unfold appO copyO
    rw [if_pos rfl]
    simp only [Int.toNat_natCast]
    rw [e, List.take_add]
theorem newO_app (base l : List UInt8) : appO base (newO l) = l := by unfold appO newO; rw [if_neg (by simp)]
theorem newO_right (base : Int) (l : List UInt8) (h : l ≠ []) : (newO l).Right base := by
  right
  refine ⟨rfl, ?_, rfl, rfl⟩
  cases l with
  | nil => exact absurd rfl h
  | cons a l => simp [newO]
theorem newO_size (l : List UInt8) : (newO l).size = l.length := by unfold DOp.size newO; rw [if_neg (by simp)]
theorem take_next {l : List UInt8} {k : Nat} (h : k < l.length) : l.take (k + 1) = l.take k ++ [l.getD k 0] := by
  rw [List.take_add_one, List.getElem?_eq_getElem h, List.getD_eq_getElem?_getD, List.getElem?_eq_getElem h]
  rfl
theorem restO_last {base left r : Int} {init : List DOp} {p : DOp} (h : restO base left (init ++ [p]) = some r) : ∃ q, restO base left init = some q ∧ p.Right base ∧ p.size ≤ q ∧ r = q - p.size := by
  rw [restO_append] at h
  cases hq : restO base left init with
  | none => rw [hq] at h; cases h
  | some q =>
    rw [hq, Option.bind_some, restO_cons] at h
    split at h
    · rename_i hc
      exact ⟨q, rfl, hc.1, hc.2, by simp [restO] at h; omega⟩
    · cases h
theorem Begun.new {base target : List UInt8} {k : Nat} {os : List DOp} (h : Begun base target k os) (hk : k < target.length) : Begun base target (k + 1) (withO os (target.getD k 0)) := by
  obtain ⟨c, hc⟩ : ∃ c, target.getD k 0 = c := ⟨_, rfl⟩
  have ht := take_next hk
  rw [hc] at ht ⊢
  have fresh : Begun base target (k + 1) (os ++ [newO [c]]) := by
    refine ⟨?_, ?_⟩
    · rw [restO_append, h.rest, Option.bind_some, restO_one (newO_right _ _ (by simp)) (by rw [newO_size]; simp; omega), newO_size]
      congr 1
      simp
      omega
    · rw [List.flatMap_append, h.app, List.flatMap_singleton, newO_app, ht]
  rcases List.eq_nil_or_concat os with rfl | ⟨init, p, rfl⟩
  · exact fresh
  · rw [List.concat_eq_append] at *
    by_cases hp : p.copy = true
    · rw [withO_copy _ _ _ hp]
      exact fresh
    · have hp' : p.copy = false := by simpa using hp
      rw [withO_new _ _ _ hp']
      obtain ⟨q, hq, hr, hs, he⟩ := restO_last h.rest
      have hr2 : p.copy = false ∧ 1 ≤ p.b.length ∧ p.frm = 0 ∧ p.n = 0 := by
        rcases hr with ⟨h1, _⟩ | h1
        · rw [hp'] at h1; cases h1
        · exact h1
      obtain ⟨r1, r2, r3, r4⟩ := hr2
      have hsz : p.size = p.b.length := by unfold DOp.size; rw [if_neg hp]
      have hpn : (⟨p.copy, p.frm, p.n, p.b ++ [c]⟩ : DOp) = newO (p.b ++ [c]) := DOp.ext' r1 r3 r4 rfl
      rw [hsz] at he hs
      rw [hpn]
      refine ⟨?_, ?_⟩
      · rw [restO_append, hq, Option.bind_some, restO_one (newO_right _ _ (by simp)) (by rw [newO_size]; simp; omega), newO_size]
        congr 1
        simp
        omega
      · have ha := h.app
        rw [List.flatMap_append, List.flatMap_singleton, show appO base p = p.b by unfold appO; rw [if_neg hp]] at ha
        rw [List.flatMap_append, List.flatMap_singleton, newO_app, ← List.append_assoc, ha, ht]
theorem mk_begun {base target : List UInt8} : ∀ (f k : Nat) (os : List DOp), k ≤ target.length → target.length ≤ k + f → Begun base target k os → Begun base target target.length (mkO base target f k os) := by
  intro f
  induction f with
  | zero =>
    intro k os h1 h2 h
    obtain rfl : k = target.length := by omega
    exact h
  | succ f ih =>
    intro k os h1 h2 h
    unfold mkO
    split
    · rename_i hk
      split
      · rename_i h6
        obtain ⟨hb, hl⟩ := h.copy hk h6
        exact ih _ _ hl (by omega) hb
      · exact ih _ _ (by omega) (by omega) (h.new hk)
    · obtain rfl : k = target.length := by omega
      exact h
theorem make_begun (base target : List UInt8) : Begun base target target.length (makeO base target) := mk_begun _ _ _ (by omega) (by omega) (Begun.nil _ _)
/-- What is made may be. -/
theorem make_right (base target : List UInt8) (h1 : base.length ≤ 4000) (h2 : target.length ≤ 4000) : chkS base.length target.length (makeO base target) = 0 := by
  unfold chkS
  rw [if_pos]
  refine ⟨by omega, by omega, ?_⟩
  rw [(make_begun base target).rest]
  congr 1
  omega
/-- What is made makes the one of the other. -/
theorem make_app (base target : List UInt8) (h1 : base.length ≤ 4000) (h2 : target.length ≤ 4000) : appR base base.length target.length (makeO base target) = (target, 0) := by
  unfold appR
  rw [if_pos (make_right base target h1 h2), if_pos rfl, (make_begun base target).app, List.take_length]
theorem putO_short {base : Int} {o : DOp} (h : o.Right base) : ((putO o).length : Int) ≤ 30 + o.size := by
  have h1 := (varF_length 9 o.frm.toNat).2
  have h2 := (varF_length 9 o.n.toNat).2
  have h3 := (varF_length 9 o.b.length).2
  have hp := h.pos
  unfold putO
  split
  · simp only [List.length_append, varB, List.length_singleton]; omega
  · rename_i hc
    have : o.size = o.b.length := by unfold DOp.size; rw [if_neg hc]
    simp only [List.length_append, varB, List.length_singleton]; omega
theorem puts_short {base left r : Int} {os : List DOp} (h : restO base left os = some r) (hr : 0 ≤ r) : ((os.flatMap putO).length : Int) ≤ 31 * left := by
  induction os generalizing left with
  | nil => simp [restO] at h; subst h; simp; omega
  | cons o os ih =>
    rw [restO_cons] at h
    split at h
    · rename_i hc
      have h1 := ih h
      have h2 := putO_short hc.1
      have h3 := hc.1.pos
      simp only [List.flatMap_cons, List.length_append]
      omega
    · cases h
theorem putS_short {b t : Int} {os : List DOp} (h : chkS b t os = 0) : (putS b t os).length ≤ 130000 := by
  unfold chkS at h
  split at h
  · rename_i hc
    have h1 := puts_short hc.2.2 (Int.le_refl 0)
    have h2 := (varF_length 9 b.toNat).2
    have h3 := (varF_length 9 t.toNat).2
    unfold putS
    simp only [List.length_append, varB]
    omega
  · cases h
end Go.Proofs.Ythjfkeploofblaa

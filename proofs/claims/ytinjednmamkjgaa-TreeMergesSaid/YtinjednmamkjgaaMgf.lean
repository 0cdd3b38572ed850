/- What is proved: a row of two lists in memory; one call of a pull, whatever is left; the rows of two lists are a function value. Conditions: the lists' cells are there. -/
import Derived.Test.YtinjednmamkjgaaMgc
import Derived.OrdersHeld
namespace Go.Proofs.Ytinjednmamkjgaa
open Go.RowKit Go.Sort Go.Shelf
set_option linter.unusedVariables false

/-! Rows in memory. -/
def rowL (S : ByteArray) (ca cb : List Value) (ha hb : Bool) : List Value := .string S :: (ca ++ (cb ++ [.bool ha, .bool hb]))
def rowV (S : ByteArray) (ca cb : Array Value) (ha hb : Bool) : Array Value := (rowL S ca.toList cb.toList ha hb).toArray
section
variable (S S2 : ByteArray) (ca cb cx : Array Value) (ha hb : Bool) (h1 : ca.size = 34) (h2 : cb.size = 34)
include h1 h2
theorem rowV_size : (rowV S ca cb ha hb).size = 71 := by simp [rowV, rowL, h1, h2]
omit h1 h2 in
theorem rowV_name : (rowV S ca cb ha hb).setIfInBounds 0 (.string S2) = rowV S2 ca cb ha hb := by
  simp [rowV, rowL]
omit h2 in
theorem rowV_a (h3 : cx.size = 34) : laidAt (rowV S ca cb ha hb) 1 cx = rowV S cx cb ha hb := by
  have e1 : ca.toList.length = 34 := by simpa using h1
  simp only [laidAt, rowV, rowL, h3]
  congr 1
  simp only [List.take_succ_cons, List.take_zero, List.cons_append, List.nil_append, show 1 + 34 = 34 + 1 from rfl, List.drop_succ_cons]
  rw [List.drop_append, e1, Nat.sub_self, List.drop_zero, List.drop_of_length_le (by omega), List.nil_append]
theorem rowV_b (h3 : cx.size = 34) : laidAt (rowV S ca cb ha hb) 35 cx = rowV S ca cx ha hb := by
  have e1 : ca.toList.length = 34 := by simpa using h1
  have e2 : cb.toList.length = 34 := by simpa using h2
  simp only [laidAt, rowV, rowL, h3]
  congr 1
  rw [show (35 : Nat) = 34 + 1 from rfl, List.take_succ_cons, show 34 + 1 + 34 = (34 + 34) + 1 from rfl, List.drop_succ_cons, List.take_append, e1, Nat.sub_self, List.take_zero, List.append_nil, List.take_of_length_le (by omega), List.drop_append, e1,
    List.drop_of_length_le (by omega), List.nil_append, show 34 + 34 - 34 = 34 from rfl, List.drop_append, e2, Nat.sub_self, List.drop_zero, List.drop_of_length_le (l := cb.toList) (by omega)]
  simp
theorem rowV_ha (b : Bool) : (rowV S ca cb ha hb).setIfInBounds 69 (.bool b) = rowV S ca cb b hb := by
  have e1 : ca.toList.length = 34 := by simpa using h1
  have e2 : cb.toList.length = 34 := by simpa using h2
  rw [rowV, List.setIfInBounds_toArray, rowL, show (69 : Nat) = 68 + 1 from rfl, List.set_cons_succ, List.set_append_right _ _ (by omega), e1, List.set_append_right _ _ (by omega), e2]
  rfl
theorem rowV_hb (b : Bool) : (rowV S ca cb ha hb).setIfInBounds 70 (.bool b) = rowV S ca cb ha b := by
  have e1 : ca.toList.length = 34 := by simpa using h1
  have e2 : cb.toList.length = 34 := by simpa using h2
  rw [rowV, List.setIfInBounds_toArray, rowL, show (70 : Nat) = 69 + 1 from rfl, List.set_cons_succ, List.set_append_right _ _ (by omega), e1, List.set_append_right _ _ (by omega), e2]
  rfl
theorem rowV_at69 : (rowV S ca cb ha hb)[69]? = some (.bool ha) := by
  have e1 : ca.toList.length = 34 := by simpa using h1
  have e2 : cb.toList.length = 34 := by simpa using h2
  rw [rowV, List.getElem?_toArray, rowL, show (69 : Nat) = 68 + 1 from rfl, List.getElem?_cons_succ, List.getElem?_append_right (by omega), e1, List.getElem?_append_right (by omega), e2]
  rfl
theorem rowV_at70 : (rowV S ca cb ha hb)[70]? = some (.bool hb) := by
  have e1 : ca.toList.length = 34 := by simpa using h1
  have e2 : cb.toList.length = 34 := by simpa using h2
  rw [rowV, List.getElem?_toArray, rowL, show (70 : Nat) = 69 + 1 from rfl, List.getElem?_cons_succ, List.getElem?_append_right (by omega), e1, List.getElem?_append_right (by omega), e2]
  rfl
end
theorem fndC_size (o : Option Ent) : (fndC o).size = 34 := entV_size _
theorem fndC_all (o : Option Ent) : (fndC o).all (·.oneCell') = true := entV_all _
theorem rowV_all (S : ByteArray) (a b : Option Ent) (ha hb : Bool) : (rowV S (fndC a) (fndC b) ha hb).all (·.oneCell') = true := Array.all_eq_true_iff_forall_mem.2 (fun v hv => by
  simp only [rowV, rowL, List.mem_toArray, List.mem_cons, List.mem_append] at hv
  rcases hv with rfl | hv | hv | hv | hv | hv
  · rfl
  · exact entV_one _ v (by simpa [fndC] using hv)
  · exact entV_one _ v (by simpa [fndC] using hv)
  · rw [hv]; rfl
  · rw [hv]; rfl
  · cases hv)
/-- A row's cells. -/
def rwC (r : Rw) : Array Value := rowV (strB r.n) (fndC r.a) (fndC r.b) r.a.isSome r.b.isSome
theorem rwC_size (r : Rw) : (rwC r).size = 71 := rowV_size _ _ _ _ _ (fndC_size _) (fndC_size _)
theorem rwC_all (r : Rw) : (rwC r).all (·.oneCell') = true := rowV_all _ _ _ _ _
def zeroB : Array Value := rowV { data := #[] } zeroE zeroE false false
theorem size_both : (Try.prog.info? 35).map (·.size) = some 71 := by kernel_rfl

/-! One call of a pull. -/
theorem Tpull1_any (C D B : Nat) (left : List Ent) (hn : left.length ≤ 100000) (w : World) (hD : D ≤ w.heap.size) (h : PullAt C D w B left) :
    Calls Try.prog 26 #[.pointer (some ⟨B, 0, none⟩)] w fun e w' => e = .returned (.tuple #[.agg (fndC left.head?), .bool left.head?.isSome]) ∧ PullAt C D w' B (restP left) ∧ Fr (fun k => k = B) w w' := by
  cases left with
  | nil =>
    refine (Tpull1_nil C D B w h).mono fun e w' ⟨he, f⟩ => ⟨he, ?_, f.mono (fun _ _ e => e.elim)⟩
    exact h.fr f (fun _ _ _ e => e)
  | cons x r => exact Tpull1_cons C D B x r (by rw [List.length_cons] at hn; omega) w hD h
set_option maxHeartbeats 1000000 in
theorem Trows_any (A B : Option Addr) (na nb ca cb : Nat) (w : World) :
    Calls Try.prog 11 #[.slice A na ca, .slice B nb cb] w fun e w' => e = .returned (.func (.func 18) #[] #[.pointer (some ⟨w.heap.size, 0, none⟩), .pointer (some ⟨w.heap.size + 1, 0, none⟩)]) ∧ w' = (w.alloc (.cells #[.slice A na ca] 22)).alloc (.cells #[.slice B nb cb] 22) := by
  go_enter Try.func11, Try.ntmps11
  go_wp2
  go_ret
  exact ⟨rfl, rfl⟩
theorem PullAt.mono {C D C' D' : Nat} {w : World} {B : Nat} {left : List Ent} (h : PullAt C D w B left) (hC : C' ≤ C) (hD : D ≤ D') : PullAt C' D' w B left := by
  obtain ⟨hB, A, c, h1, h2, h3, h4⟩ := h
  exact ⟨⟨by omega, by omega⟩, A, c, h1, h2, fun ad e => by have := h3 ad e; exact ⟨this.1, by omega, by omega⟩, h4⟩
theorem restP_dd (x : Ent) (r : List Ent) : dd (x :: r) = x :: dd (restP (x :: r)) := by rw [dd_cons]; rfl
end Go.Proofs.Ytinjednmamkjgaa

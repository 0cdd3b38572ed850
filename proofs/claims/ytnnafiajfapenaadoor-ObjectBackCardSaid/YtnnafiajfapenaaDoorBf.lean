/- What is proved: what the walks of this seat need of layers below, merged out of the texts Rwe Rwf Rwj Rwk (of each just what is needed). Conditions: each theorem names its own. -/
import Derived.Test.YtnnafiajfapenaaDoorBc
import Derived.Test.YtnnafiajfapenaaDoorBe
/- What is proved: the line of a word, by the document. Conditions: the word has no byte 10; the text is not too long. -/
namespace Go.Proofs.YtnnafiajfapenaaDoor
open Go.RowKit Go.Sort Go.Shelf
set_option linter.unusedVariables false
/-- What the document's call answers. -/
def LineIs (G : Option (List UInt8 × List UInt8)) (e : Ending) : Prop := match G with
  | some (t, r) => e = .returned (.tuple #[.string (strB t), .string (strB r), .bool true])
  | none => e = .returned (.tuple #[.string (strB []), .string (strB []), .bool false])
theorem LineIs.no {G : Option (List UInt8 × List UInt8)} {e : Ending} (h : G = none) (he : e = .returned (.tuple #[.string (strB []), .string (strB []), .bool false])) : LineIs G e := by subst h; exact he
end Go.Proofs.YtnnafiajfapenaaDoor
/- What is proved: bytes as a commit, by the document. Conditions: the bytes' cells are there, not too many. -/
namespace Go.Proofs.YtnnafiajfapenaaDoor
open Go.RowKit Go.Sort Go.Shelf
open Ids (idC dgt big idC_size idC_get idC_one cellD zero32 size32 dgt_lt hexB)
set_option linter.unusedVariables false
/-- What stands while a commit is read. -/
structure Qk (w wr : World) (g8 base : Nat) (T : Nat) (v : Value) (ps : List Nat) (a : List UInt8) (n : Int) (t : List UInt8) : Prop where
  fr : Fr (fun _ => False) w wr
  zero : Whole wr w.heap.size 52 zeroR
  rev : RevAt wr (w.heap.size + 1) T v a n t
  box : ∃ cx, Whole wr g8 49 cx ∧ cx.size = 32
  own : wr.ownsRow base 49 32 v ps.length (flatI ps)
  lt1 : w.heap.size + 1 < g8
  lt2 : g8 < base
section
variable {w wr w' : World} {g8 base : Nat} {T : Nat} {v : Value} {ps : List Nat} {a : List UInt8} {n : Int} {t : List UInt8}
theorem Qk.later (h : Qk w wr g8 base T v ps a n t) (f : Fr (fun _ => False) wr w') : Qk w w' g8 base T v ps a n t := by
  obtain ⟨cx, h1, h2⟩ := h.box
  exact ⟨h.fr.trans f (fun _ _ e => e), h.zero.fr f (fun e => e), h.rev.fr f, ⟨cx, h1.fr f (fun e => e), h2⟩, own_fr h.own f (fun _ _ e => e), h.lt1, h.lt2⟩
theorem Qk.put (h : Qk w wr g8 base T v ps a n t) {p : Addr} (hp : p.block = w.heap.size + 1) (u : Value) {a' : List UInt8} {n' : Int} {t' : List UInt8} (hr : RevAt (wr.setCell p u) (w.heap.size + 1) T v a' n' t') : Qk w (wr.setCell p u) g8 base T v ps a' n' t' := by
  have l1 := h.lt1
  have l2 := h.lt2
  have f : Fr (fun k => k = w.heap.size + 1) wr (wr.setCell p u) := Fr.setCell (S := fun k => k = w.heap.size + 1) (Fr.refl _ wr) (fun _ => hp) u
  obtain ⟨cx, h1, h2⟩ := h.box
  exact ⟨h.fr.trans f (fun i hi e => by omega), h.zero.fr f (fun e => by omega), hr, ⟨cx, h1.fr f (fun e => by omega), h2⟩, own_fr h.own f (fun k hk e => by have := (World.ownsRow.lt h.own k hk).1; omega), l1, l2⟩
theorem Qk.grown (h : Qk w wr g8 base T v ps a n t) {v' : Value} {m : Nat}
    (o : w'.ownsRow base 49 32 v' (ps.length + 1) (flatI ps ++ flatI [m])) (gr : wr.grownBy w' v.ownBlock) (hsz : base ≤ wr.heap.size) : RevAt w' (w.heap.size + 1) T v a n t ∧ Qk w (w'.setCell ⟨w.heap.size + 1, 32, none⟩ v') g8 base T v' (ps ++ [m]) a n t := by
  have l1 := h.lt1
  have l2 := h.lt2
  have f : Fr (fun k => v.ownBlock = some k) wr w' := (Fr.refl _ wr).grown gr (fun k hk _ => hk)
  have hb : ∀ k, v.ownBlock = some k → base ≤ k := fun k hk => (World.ownsRow.lt h.own k hk).1
  have hr : RevAt w' (w.heap.size + 1) T v a n t := Whole.fr h.rev f (fun e => by have := hb _ e; omega)
  have f2 : Fr (fun k => k = w.heap.size + 1) w' (w'.setCell ⟨w.heap.size + 1, 32, none⟩ v') := Fr.setCell (S := fun k => k = w.heap.size + 1) (p := ⟨w.heap.size + 1, 32, none⟩) (Fr.refl _ w') (fun _ => rfl) v'
  obtain ⟨cx, h1, h2⟩ := h.box
  refine ⟨hr, (h.fr.trans f (fun i hi e => by have := hb i e; omega)).trans f2 (fun i hi e => by omega), (h.zero.fr f (fun e => by have := hb _ e; omega)).fr f2 (fun e => by omega), hr.setV v', ⟨cx, (h1.fr f (fun e => by have := hb _ e; omega)).fr f2 (fun e => by omega), h2⟩, ?_, l1, l2⟩
  have o2 := own_fr o f2 (fun k hk e => by have := (World.ownsRow.lt o k hk).1; omega)
  rw [List.length_append, List.length_singleton, flatI_append]
  exact o2
end
end Go.Proofs.YtnnafiajfapenaaDoor
/- What is proved: the walk of the law RevGets, for all bytes. Conditions: the bytes' cells are there; the library's table lies as its text lays it. -/
namespace Go.Proofs.YtnnafiajfapenaaDoor
open Go.RowKit Go.Sort Go.Shelf
open Ids (idC dgt big idC_size idC_get idC_one cellD zero32 size32 dgt_lt hexB)
set_option linter.unusedVariables false
theorem own_none1 (w : World) : (w.alloc (.cells #[] 5)).ownsRow w.heap.size 5 1 (.slice (some ⟨w.heap.size, 0, none⟩) 0 0) 0 [] :=
  World.ownsRow_made w #[] 0 (Nat.le_refl _) (Nat.zero_le _) rfl
theorem own_copyB {w1 wa : World} {vO : Value} {l : List UInt8} {L : Nat} (hL : l.length = L) (o1 : wa.ownsRow w1.heap.size 5 1 vO (0 + L) ([] ++ bytesV l)) (g1 : (w1.alloc (.cells #[] 5)).grownBy wa (Value.slice (some ⟨w1.heap.size, 0, none⟩) 0 0).ownBlock) : ∃ A c, vO = .slice A L c ∧ L ≤ c ∧ Lies wa A (bytesV l) ∧ Fr (fun _ => False) w1 wa := by
  have f : Fr (fun _ => False) w1 wa := fr_append (own_none1 w1) ((Fr.refl (fun _ => False) w1).alloc _) g1
  have h : OwnB w1 wa vO l := ⟨by rw [hL]; simpa using o1, f⟩
  obtain ⟨A, c, hv, hc, hl, _, _⟩ := h.slice
  exact ⟨A, c, by rw [hv, hL], by omega, hl, h.2⟩
end Go.Proofs.YtnnafiajfapenaaDoor
/- What is proved: plainly: what a commit is put as is read as that commit; what is read as a commit is just what that one is put as. Conditions: none. -/
namespace Go.Proofs.YtnnafiajfapenaaDoor
open Go.RowKit Go.Sort Go.Shelf
open Ids (idC dgt big idC_size idC_get idC_one cellD zero32 size32 dgt_lt hexB nu)
set_option linter.unusedVariables false
/-! Numbers. -/
theorem dec_ge {n : Nat} (h : ¬ n < 10) : Lib.decDigits n = Lib.decDigits (n / 10) ++ [UInt8.ofNat (48 + n % 10)] := by
  conv => lhs; rw [Lib.decDigits, dif_neg h]
theorem dig_c {d : Nat} (h : d < 10) : (UInt8.ofNat (48 + d)).toNat = 48 + d := by rw [UInt8.toNat_ofNat']; omega
theorem dec_props (n : Nat) : (Lib.decDigits n).all isDig = true ∧ valN (Lib.decDigits n) = n ∧ 1 ≤ (Lib.decDigits n).length ∧ (1 ≤ n → (Lib.decDigits n).getD 0 0 ≠ 48) ∧ ∀ k, 1 ≤ k → n < 10 ^ k → (Lib.decDigits n).length ≤ k := by
  induction n using Nat.strongRecOn with
  | _ n ih =>
    by_cases h : n < 10
    · rw [Lib.decDigits_one h]
      refine ⟨?_, ?_, Nat.le_refl _, fun h1 e => ?_, fun k hk _ => hk⟩
      · simp [isDig]; omega
      · simp [valN]; omega
      · have := congrArg UInt8.toNat e
        rw [show ([UInt8.ofNat (48 + n)] : List UInt8).getD 0 0 = UInt8.ofNat (48 + n) from rfl, dig_c h] at this
        have e2 : (48 : UInt8).toNat = 48 := rfl
        omega
    · obtain ⟨h1, h2, h3, h4, h5⟩ := ih (n / 10) (by omega)
      have hd : n % 10 < 10 := by omega
      rw [dec_ge h]
      refine ⟨?_, ?_, by simp, fun _ => ?_, fun k hk hn => ?_⟩
      · rw [List.all_append, h1]; simp [isDig]; omega
      · rw [valN_snoc, h2, dig_c hd]; omega
      · rw [List.getD_eq_getElem?_getD, List.getElem?_append_left (by omega), ← List.getD_eq_getElem?_getD]
        exact h4 (by omega)
      · rw [List.length_append, List.length_singleton]
        rcases k with _ | _ | k
        · omega
        · simp at hn; omega
        · have := h5 (k + 1) (by omega) (by rw [Nat.pow_succ] at hn; omega)
          omega
theorem readN_dec (n : Nat) (h : n < 1000000000000000) : readN (Lib.decDigits n) = some n := by
  obtain ⟨h1, h2, h3, h4, h5⟩ := dec_props n
  have hl := h5 15 (by decide) h
  have hb : badN (Lib.decDigits n) = false := badN_not h3 hl (fun hl2 => h4 (by
    apply Classical.byContradiction
    intro hn
    have := h5 1 (by decide) (by omega)
    omega))
  rw [readN, numW_ok hb h1, if_pos rfl, h2]
theorem dec_val : ∀ (r : List UInt8) (t : List UInt8), t = r.reverse → t ≠ [] → t.all isDig = true → (1 < t.length → t.getD 0 0 ≠ 48) → Lib.decDigits (valN t) = t := by
  intro r
  induction r with
  | nil => intro t ht hne; exact absurd (by rw [ht]; rfl) hne
  | cons c r ih =>
    intro t ht hne ha hz
    rw [List.reverse_cons] at ht
    have hc : isDig c = true := List.all_eq_true.1 ha c (by rw [ht]; simp)
    have hcd := (isDig_iff c).1 hc
    have hcc : UInt8.ofNat (48 + (c.toNat - 48)) = c := by
      apply UInt8.toNat_inj.1
      rw [dig_c (by omega)]; omega
    rw [ht, valN_snoc]
    cases hr : r.reverse with
    | nil =>
      rw [show valN [] = 0 from rfl, Nat.mul_zero, Nat.zero_add, Lib.decDigits_one (by omega), hcc]
      rfl
    | cons d t' =>
      have hz2 : (r.reverse).getD 0 0 ≠ 48 := by
        have := hz (by rw [ht, hr]; simp)
        rw [ht, hr] at this
        rw [hr]
        exact this
      have hIH := ih r.reverse rfl (by rw [hr]; simp) (by rw [ht, List.all_append, Bool.and_eq_true] at ha; exact ha.1) (fun _ => hz2)
      have hpos : valN r.reverse ≠ 0 := fun h0 => by
        rw [h0] at hIH
        rw [← hIH] at hz2
        exact hz2 (by rw [Lib.decDigits_one (by decide)]; rfl)
      rw [← hr, dec_ge (by omega), show (10 * valN r.reverse + (c.toNat - 48)) / 10 = valN r.reverse by omega, show (10 * valN r.reverse + (c.toNat - 48)) % 10 = c.toNat - 48 by omega, hIH, hcc]
theorem dec_readN {t : List UInt8} {n : Nat} (h : readN t = some n) : t = Lib.decDigits n := by
  by_cases hb : badN t = true
  · rw [readN, numW_bad hb] at h; cases h
  · have hb : badN t = false := by simpa using hb
    cases ha : t.all isDig with
    | false => rw [readN, numW_not ha] at h; cases h
    | true =>
      rw [readN, numW_ok hb ha, if_pos rfl] at h
      injection h with h
      unfold badN at hb
      rw [Bool.or_eq_false_iff, Bool.or_eq_false_iff, decide_eq_false_iff_not, decide_eq_false_iff_not] at hb
      rw [← h]
      refine (dec_val t.reverse t (by rw [List.reverse_reverse]) (fun e => hb.1.1 (by rw [e]; decide)) ha (fun hl e => ?_)).symm
      have := hb.2
      rw [decide_eq_true hl, e] at this
      cases this
end Go.Proofs.YtnnafiajfapenaaDoor

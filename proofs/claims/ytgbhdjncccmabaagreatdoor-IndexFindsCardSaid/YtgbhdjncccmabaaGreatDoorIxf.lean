/- What is proved: places in order by their ids, plainly: the order is one, but for places of one id; whether two have one id, whether one's place may not be. Conditions: none. -/
import Derived.Test.YtgbhdjncccmabaaGreatDoorIxd
namespace Go.Proofs.YtgbhdjncccmabaaGreatDoor
open Go.RowKit
set_option linter.unusedVariables false

def leP (p q : Pl) : Prop := p.id ≤ q.id
def insP (out : List Pl) (p : Pl) : List Pl := out.takeWhile (fun q => decide (q.id ≤ p.id)) ++ p :: out.dropWhile (fun q => decide (q.id ≤ p.id))
def srtP (l : List Pl) : List Pl := l.foldl insP []
theorem insP_perm (out : List Pl) (p : Pl) : (insP out p).Perm (p :: out) := by
  have h : out.takeWhile (fun q => decide (q.id ≤ p.id)) ++ out.dropWhile (fun q => decide (q.id ≤ p.id)) = out := List.takeWhile_append_dropWhile
  conv => rhs; rw [← h]
  exact List.perm_middle
theorem insP_sorted (out : List Pl) (p : Pl) (h : out.Pairwise leP) : (insP out p).Pairwise leP := by
  induction out with
  | nil => simp [insP]
  | cons q out ih =>
    rw [List.pairwise_cons] at h
    unfold insP
    by_cases hq : q.id ≤ p.id
    · rw [List.takeWhile_cons_of_pos (by simpa using hq), List.dropWhile_cons_of_pos (by simpa using hq), List.cons_append, List.pairwise_cons]
      refine ⟨fun x hx => ?_, ih h.2⟩
      rcases List.mem_cons.1 ((insP_perm out p).mem_iff.1 hx) with rfl | hx
      · exact hq
      · exact h.1 x hx
    · rw [List.takeWhile_cons_of_neg (by simpa using hq), List.dropWhile_cons_of_neg (by simpa using hq), List.nil_append, List.pairwise_cons]
      refine ⟨fun x hx => ?_, by rw [List.pairwise_cons]; exact h⟩
      rcases List.mem_cons.1 hx with rfl | hx
      · unfold leP; omega
      · have := h.1 x hx; unfold leP at *; omega
theorem srtP_snoc (l : List Pl) (p : Pl) : srtP (l ++ [p]) = insP (srtP l) p := by simp [srtP]
theorem srtP_go (l out : List Pl) (h : out.Pairwise leP) : (l.foldl insP out).Pairwise leP ∧ (l.foldl insP out).Perm (l ++ out) := by
  induction l generalizing out with
  | nil => exact ⟨h, List.Perm.refl _⟩
  | cons p l ih =>
    obtain ⟨h1, h2⟩ := ih (insP out p) (insP_sorted out p h)
    refine ⟨h1, h2.trans ?_⟩
    exact ((insP_perm out p).append_left l).trans List.perm_middle
theorem srtP_sorted (l : List Pl) : (srtP l).Pairwise leP := (srtP_go l [] List.Pairwise.nil).1
theorem srtP_perm (l : List Pl) : (srtP l).Perm l := by have := (srtP_go l [] List.Pairwise.nil).2; rwa [List.append_nil] at this
theorem srtP_len (l : List Pl) : (srtP l).length = l.length := (srtP_perm l).length_eq

/-- Have two that stand side by side one id? -/
def dupS (s : List Pl) : Bool := (List.range s.length).any fun k => decide (k + 1 < s.length ∧ (s[k]!).id = (s[k + 1]!).id)
theorem dupS_iff (s : List Pl) : dupS s = true ↔ ∃ k, k + 1 < s.length ∧ (s[k]!).id = (s[k + 1]!).id := by
  unfold dupS
  rw [List.any_eq_true]
  constructor
  · rintro ⟨k, _, h⟩; exact ⟨k, by simpa using h⟩
  · rintro ⟨k, h1, h2⟩; exact ⟨k, List.mem_range.2 (by omega), decide_eq_true ⟨h1, h2⟩⟩
/-- May the place of one not be? -/
def badS (s : List Pl) : Bool := s.any fun p => decide (p.pos < 0 ∨ 1048576 < p.pos)
theorem sorted_at {s : List Pl} (h : ∀ i j, i < j → j < s.length → (s[i]!).id ≤ (s[j]!).id) : s.Pairwise leP := by
  rw [List.pairwise_iff_getElem]
  intro i j hi hj hij
  have := h i j hij hj
  rwa [getElem!_pos s i hi, getElem!_pos s j hj] at this
theorem at_sorted {s : List Pl} (h : s.Pairwise leP) {i j : Nat} (hij : i < j) (hj : j < s.length) : (s[i]!).id ≤ (s[j]!).id := by
  have := (List.pairwise_iff_getElem.1 h) i j (by omega) hj hij
  rwa [← getElem!_pos s i (by omega), ← getElem!_pos s j hj] at this
theorem ids_sorted {s : List Pl} (h : s.Pairwise leP) : (idsP s).Pairwise (· ≤ ·) := by
  unfold idsP
  rw [List.pairwise_map]
  exact h
theorem srt_ids {s l : List Pl} (hp : s.Perm l) (hs : s.Pairwise leP) : idsP s = idsP (srtP l) :=
  List.Perm.eq_of_pairwise (fun a b _ _ h1 h2 => Nat.le_antisymm h1 h2) (ids_sorted hs) (ids_sorted (srtP_sorted l)) ((hp.trans (srtP_perm l).symm).map _)
theorem dup_ids {s t : List Pl} (h : idsP s = idsP t) : dupS s = dupS t := by
  have hl : s.length = t.length := by rw [← idsP_len s, h, idsP_len]
  rw [Bool.eq_iff_iff, dupS_iff, dupS_iff, hl]
  refine exists_congr fun k => and_congr_right fun hk => ?_
  rw [← idsP_gt s k (by omega), ← idsP_gt s (k + 1) (by omega), ← idsP_gt t k (by omega), ← idsP_gt t (k + 1) (by omega), h]
theorem rising_of {s : List Pl} (hs : s.Pairwise leP) (hd : dupS s = false) {i j : Nat} (hij : i < j) (hj : j < s.length) : (s[i]!).id < (s[j]!).id := by
  have h1 : (s[i]!).id ≤ (s[j - 1]!).id := by
    rcases Nat.eq_or_lt_of_le (show i ≤ j - 1 by omega) with e | e
    · rw [e]; exact Nat.le_refl _
    · exact at_sorted hs e (by omega)
  have h2 : (s[j - 1]!).id ≤ (s[j]!).id := at_sorted hs (by omega) hj
  have h3 : (s[j - 1]!).id ≠ (s[j]!).id := fun e => by
    have : dupS s = true := (dupS_iff s).2 ⟨j - 1, by omega, by rw [show j - 1 + 1 = j by omega]; exact e⟩
    rw [hd] at this; cases this
  omega
theorem ids_nodup {s : List Pl} (hs : s.Pairwise leP) (hd : dupS s = false) {i j : Nat} (hi : i < s.length) (hj : j < s.length) (h : (s[i]!).id = (s[j]!).id) : i = j := by
  rcases Nat.lt_trichotomy i j with h1 | h1 | h1
  · have := rising_of hs hd h1 hj; omega
  · exact h1
  · have := rising_of hs hd h1 hi; omega
theorem srt_one {s l : List Pl} (hp : s.Perm l) (hs : s.Pairwise leP) (hd : dupS s = false) : s = srtP l := by
  have he := srt_ids hp hs
  have hl : s.length = (srtP l).length := by rw [← idsP_len s, he, idsP_len]
  apply List.ext_getElem hl
  intro i h1 h2
  have hm : (srtP l)[i] ∈ s := (hp.trans (srtP_perm l).symm).mem_iff.2 (List.getElem_mem h2)
  obtain ⟨j, hj, e⟩ := List.getElem_of_mem hm
  have hid : (s[j]!).id = (s[i]!).id := by
    rw [getElem!_pos s j hj, e, ← getElem!_pos (srtP l) i h2, ← idsP_gt _ _ h2, ← idsP_gt _ _ h1, he]
  have : j = i := ids_nodup hs hd hj h1 hid
  subst this
  exact e
def mkE (l : List Pl) : Int := if dupS (srtP l) = true then 17 else if badS (srtP l) = true then 2 else 0
def mkB (l : List Pl) (of : Nat) : List UInt8 := if mkE l = 0 then fileI (srtP l) of else []
theorem mk_dup {s l : List Pl} (hp : s.Perm l) (hs : s.Pairwise leP) (h : dupS s = true) : mkE l = 17 := by
  unfold mkE
  rw [← dup_ids (srt_ids hp hs), if_pos h]
theorem mk_bad {s l : List Pl} (hp : s.Perm l) (hs : s.Pairwise leP) (h : dupS s = false) (hb : badS s = true) : mkE l = 2 := by
  unfold mkE
  rw [← srt_one hp hs h, h, hb]
  rfl
theorem mk_ok {s l : List Pl} (hp : s.Perm l) (hs : s.Pairwise leP) (h : dupS s = false) (hb : badS s = false) : mkE l = 0 ∧ s = srtP l := by
  refine ⟨?_, srt_one hp hs h⟩
  unfold mkE
  rw [← srt_one hp hs h, h, hb]
  rfl
end Go.Proofs.YtgbhdjncccmabaaGreatDoor

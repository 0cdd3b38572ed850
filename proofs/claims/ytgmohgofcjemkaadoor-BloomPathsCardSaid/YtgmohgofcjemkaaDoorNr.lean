/- What is proved: the program's set of texts: a text put into it, all of them by their bytes. Conditions: at most a million texts. -/
import Derived.Test.YtgmohgofcjemkaaDoorNd
import Derived.Test.YtgmohgofcjemkaaDoorSst
import Derived.Sort.KeysCollected
import Derived.Sort.OwnSorted
import Derived.Maps.RangeWalk
import Derived.Shelf.Abstract
import Derived.WalkSpells
import Derived.Deep.CutBlock
namespace Go.Proofs.YtgmohgofcjemkaaDoor
open Go.RowKit Go.Sort Go.Shelf Go.Maps
set_option linter.unusedVariables false

theorem lawS : Keyed Tryd.prog 9 := string_keyed Tryd.underlying9
theorem keyS (x : List UInt8) (h : x.length ≤ maxLen) : keyOf Tryd.prog 9 (.string (strB x)) = some (.string x) := by
  have := WideMaps.keyOf_string_mk (P := Tryd.prog) (k := 9) Tryd.underlying9 (s := strB x) (by rw [strB_size]; exact h)
  rwa [strB_data] at this
theorem unl_ris (l : List (List UInt8)) : RisN (unl l) ∧ ∀ x, x ∈ unl l ↔ x ∈ l := by
  suffices h : ∀ (l out : List (List UInt8)), RisN out → RisN (l.foldl insN out) ∧ ∀ x, x ∈ l.foldl insN out ↔ x ∈ out ∨ x ∈ l by
    have := h l [] List.Pairwise.nil
    exact ⟨this.1, fun x => by rw [show unl l = l.foldl insN [] from rfl, this.2 x]; simp⟩
  intro l
  induction l with
  | nil => intro out h; exact ⟨h, fun x => by simp⟩
  | cons y l ih =>
    intro out h
    obtain ⟨h1, h2⟩ := insN_facts y h
    obtain ⟨i1, i2⟩ := ih _ h1
    refine ⟨i1, fun x => ?_⟩
    rw [List.foldl_cons, i2, h2, List.mem_cons]
    constructor
    · rintro ((rfl | e) | e)
      · exact .inr (.inl rfl)
      · exact .inl e
      · exact .inr (.inr e)
    · rintro (e | rfl | e)
      · exact .inl (.inr e)
      · exact .inl (.inl rfl)
      · exact .inr e
theorem unl_nodup (l : List (List UInt8)) : (unl l).Nodup := (unl_ris l).1.imp (fun h e => by subst e; rw [ltB_irrefl] at h; cases h)
theorem sort_unl (l : List (List UInt8)) : (unl l).mergeSort leB = unl l := by
  have tr : ∀ a b c : List UInt8, leB a b = true → leB b c = true → leB a c = true := fun a b c h1 h2 => by simp only [leB, decide_eq_true_eq] at *; exact List.le_trans h1 h2
  have tot : ∀ a b : List UInt8, (leB a b || leB b a) = true := fun a b => by simp only [leB, Bool.or_eq_true, decide_eq_true_eq]; exact List.le_total a b
  refine List.Perm.eq_of_pairwise (le := fun a b => leB a b = true) (fun a b _ _ h1 h2 => ?_) (List.pairwise_mergeSort tr tot _) ((unl_ris l).1.imp (fun h => ?_)) (List.mergeSort_perm _ _)
  · simp only [leB, decide_eq_true_eq] at h1 h2
    exact List.le_antisymm h1 h2
  · rw [ltB_eq] at h
    simp only [leB, decide_eq_true_eq]
    exact List.le_of_lt (of_decide_eq_true h)
theorem unl_same {l m : List (List UInt8)} (h : ∀ x, x ∈ l ↔ x ∈ m) : unl l = unl m := by
  have hp : (unl l).Perm (unl m) := (List.perm_ext_iff_of_nodup (unl_nodup l) (unl_nodup m)).2 (fun x => by rw [(unl_ris l).2, (unl_ris m).2]; exact h x)
  rw [← sort_unl l, ← sort_unl m]
  exact mergeSort_of_perm hp

/-- Block B is a set that has just the texts of l. -/
def SetAt (w : World) (B : Nat) (l : List (List UInt8)) : Prop :=
  ∃ D, w.ownsMap Tryd.prog 9 (unitElem (H := Unit)) B l.length D ∧ ∀ x, Maps.has D (.string x) = true ↔ x ∈ l
theorem SetAt.made (w : World) : SetAt (w.alloc (.map #[] 0)) w.heap.size [] :=
  ⟨_, World.ownsMap_made w _ _ _, fun x => by simp [Maps.has]⟩
theorem SetAt.fr {w w' : World} {B : Nat} {l : List (List UInt8)} {S : Nat → Prop} (h : SetAt w B l) (f : Fr S w w') (hn : ¬ S B) : SetAt w' B l := by
  obtain ⟨D, ⟨es, clock, hb, r⟩, hm⟩ := h
  exact ⟨D, ⟨es, clock, (f.block B (Array.getElem?_eq_some_iff.1 hb).1 hn).trans hb, r⟩, hm⟩
theorem SetAt.lt {w : World} {B : Nat} {l : List (List UInt8)} (h : SetAt w B l) : B < w.heap.size := by
  obtain ⟨D, h, _⟩ := h
  exact h.lt
theorem SetAt.perm {w : World} {B : Nat} {l : List (List UInt8)} {D : DataW Unit} (h : w.ownsMap Tryd.prog 9 (unitElem (H := Unit)) B l.length D) (hm : ∀ x, Maps.has D (.string x) = true ↔ x ∈ l) : (unl l).Perm (strKeys D) := by
  obtain ⟨es, hD, hpw, _⟩ := h.entries lawS
  obtain ⟨es', hD', hko⟩ := h.keysOf
  obtain rfl : es = es' := by rw [hD] at hD'; simpa using hD'
  subst hD
  exact perm_strKeys hpw (fun p hp => by obtain ⟨v, hv⟩ := hko p hp; obtain ⟨x, _, hx, _⟩ := Maps.keyOf_str Tryd.underlying9 hv; exact ⟨x, hx⟩) (unl_nodup l) (fun x => by rw [(unl_ris l).2]; exact (hm x).symm)
theorem size_keys {D : DataW Unit} (h : ∃ es, D = .map es) : (strKeys D).length = Maps.size D := by
  obtain ⟨es, rfl⟩ := h
  simp [strKeys, Maps.size]

set_option maxHeartbeats 1600000 in
theorem Put_any (B : Nat) (l : List (List UInt8)) (hl : l.length ≤ 10000000) (x : List UInt8) (hx : x.length ≤ maxLen) (w : World) (h : SetAt w B l) :
    Calls Tryd.prog 16 #[.map (some B), .string (strB x)] w fun e w' => e = .returned (.tuple #[]) ∧ SetAt w' B (l ++ [x]) ∧ Fr (fun k => k = B) w w' := by
  obtain ⟨D, hown, hm⟩ := h
  have hkey := keyS x hx
  have HE : Hid (∀ w', w'.ownsMap Tryd.prog 9 (unitElem (H := Unit)) B (l.length + 1) (D.put (.string x) (.agg [])) → SetAt w' B (l ++ [x])) := Lib.hid (fun w' h' => by
    refine ⟨_, by rw [List.length_append]; exact h', fun y => ?_⟩
    rw [List.mem_append, List.mem_singleton]
    by_cases e : y = x
    · subst e
      rw [has_put_same hown.isMap (show WideAt.IsKeyLit (.string y) from trivial)]
      simp
    · rw [has_put_other (by intro e2; cases e2; exact e rfl), hm y]
      simp [e])
  obtain ⟨S, hS⟩ : ∃ S, strB x = S := ⟨_, rfl⟩
  obtain ⟨n, hn⟩ : ∃ n, l.length = n := ⟨_, rfl⟩
  rw [hS] at hkey ⊢
  rw [hn] at hl hown HE
  have hn1 : n < maxLen := by unfold maxLen; omega
  clear hS hn hm
  go_enter Tryd.func16, Tryd.ntmps16
  go_wp2_with (at_mapUpdate; refine wpList_mapUpdate_own _ rfl _ _ _ 35 rfl 9 50 lawS Tryd.underlying35 (unitElem (H := Unit)) B n D rfl hown hn1 _ _ (.string x) rfl rfl hkey (.agg []) [] unitElem_mk ?_; intro w1 hown1 hgrow1)
  go_end0
  exact ⟨rfl, HE.out _ hown1, (Fr.refl _ w).grown hgrow1 (fun k hk _ => by cases hk; rfl)⟩

theorem encS (x : List UInt8) : encStr x = .string (strB x) := rfl
theorem strM_enc (ps : List (List UInt8)) : strM ps = ps.map encStr := rfl

set_option maxHeartbeats 3200000 in
set_option maxRecDepth 100000 in
theorem Rising_any (B : Nat) (l : List (List UInt8)) (hl : l.length ≤ 1000000) (w : World) (h : SetAt w B l) :
    Calls Tryd.prog 17 #[.map (some B)] w fun e w' => ∃ v, e = .returned v ∧ OwnS w w' v (unl l) := by
  obtain ⟨D, hown, hm⟩ := h
  have HPm := Lib.hid (SetAt.perm hown hm)
  have hbl := hown.lt
  have hsz : Maps.size D ≤ 1000000 := Nat.le_trans hown.size_le hl
  have HOw := Lib.hid hown
  have HUn : Hid (∀ ss : List (List UInt8), ss.Perm (strKeys D) → (ss.mergeSort fun x y => decide (x ≤ y)) = unl l) := Lib.hid (fun ss hp => by
    rw [← sort_unl l]
    exact mergeSort_of_perm (hp.trans HPm.out.symm))
  obtain ⟨i0, hi, hz0, hz1, hz2⟩ := info_parts infoM
  obtain ⟨n, hn⟩ : ∃ n, l.length = n := ⟨_, rfl⟩
  rw [hn] at hown HOw
  clear hn hm hl HPm
  go_enter Tryd.func17, Tryd.ntmps17
  go_wp2_with (at_range; refine wpList_range_own _ rfl _ 35 rfl 9 50 lawS Tryd.underlying35 _ B n _ rfl hown ?_; intro w0 hrg0 hg0 hs0)
  go_frame
  clear hs0
  go_loopw [3] (fun v wr => ∃ (left : Lit → Bool) (cnt : Nat) (ss : List (List UInt8)), wr.ranges Tryd.prog 9 (unitElem (H := Unit)) B w.heap.size n D left cnt ∧ ss.length + cnt ≤ Maps.size D ∧
      wr.ownsRow (w.heap.size + 1) 9 1 v ss.length (ss.map encStr) ∧ Collected D left ss ∧ Fr (fun _ => False) w wr ∧ w.heap.size + 1 ≤ wr.heap.size)
    (fun _ wr => wr.rangeLeft B w.heap.size)
  case atStart =>
    exact ⟨_, _, [], hrg0, by simp, World.ownsRow_nil _ _ _ _, Collected.start D, (Fr.refl _ w).grown hg0 (fun j hj => by cases hj), hrg0.lt⟩
  case round =>
    obtain ⟨left, cnt, ss, hrg, hcs, hrow, hC, hnx, hws⟩ := hrel
    have HC := Lib.hid hC
    have HNx := Lib.hid hnx
    clear hC hnx
    go_wp2_with (at_next; refine wpList_next_ranges _ rfl _ rfl 9 lawS (unitElem (H := Unit)) encStr (fun _ : Unit => .agg #[]) (fun key kl hk => by obtain ⟨x, hx, _⟩ := Maps.keyOf_str Tryd.underlying9 hk; exact ⟨x, hx⟩) (fun v y hv => ⟨(), (unitElem_inv hv).1⟩) B w.heap.size n _ _ _ rfl hrg ?_ ?_)
    · intro hc0 hl0
      have HP := Lib.hid (HC.out.perm HOw.out lawS Tryd.underlying9 hl0)
      have HE := Lib.hid (HUn.out ss HP.out)
      have HLe : Hid ((unl l).length = ss.length) := Lib.hid (by rw [← HE.out]; simp)
      rcases hrow.2 with ⟨hnil, hz⟩ | ⟨g, cap, cur, rfl, hbase, hb, h1, h2, h3, h4⟩
      · have hss : ss = [] := List.eq_nil_of_length_eq_zero hz
        subst hss
        subst hnil
        have hc := AnyM.slices_Sort_string_none sortSt none 0 wr
        go_wp2_with (go_at_call 31; refine hc.mono ?_; rintro e w' ⟨rfl, rfl⟩)
        go_ret
        refine ⟨_, rfl, ?_, HNx.out⟩
        have e0 : unl l = [] := List.eq_nil_of_length_eq_zero HLe.out
        rw [e0]
        exact World.ownsRow_nil _ _ _ _
      · have hH : Holds encStr wr g 0 ss.toArray := holds_of_block hb (by simpa using h4)
        have hgl : g < wr.heap.size := (Array.getElem?_eq_some_iff.1 hb).1
        have hc := AnyM.slices_Sort_string sortSt g 0 cap ss wr hH hgl (by omega)
        rw [HE.out] at hc
        go_wp2_with (go_at_call 31; refine hc.mono ?_; rintro e w' ⟨rfl, nn, os, rfl⟩)
        go_ret
        refine ⟨_, rfl, ?_, HNx.out.grown (grownBy_sorted _) (fun j hj hlt => by cases hj; omega)⟩
        have := ownsRow_sorted (w := wr) (base := w.heap.size) (n := nn) (os := os) (e := 9) HLe.out (by omega) hb h1 h2 h3
        rw [HLe.out]
        exact this
    · intro x c kl yy w2 cnt2 hkey hlk hv hat hrg2 hlt hg2 hs2 hen
      obtain ⟨x', ex, rfl, _⟩ := Maps.keyOf_str Tryd.underlying9 hkey
      obtain rfl : x = x' := encStr_inj ex
      have hrow2 := hrow.kept hg2 (Or.inr (fun e => by have := (World.ownsRow.lt hrow _ e).1; omega))
      have HF2 := Lib.hid (show Fr (fun _ => False) w w2 from HNx.out.grown hg2 (fun j hj hlt => by cases hj; omega))
      have HW2 := Lib.hid (show w.heap.size + 1 ≤ w2.heap.size from by rw [hs2]; exact hws)
      have HCs := Lib.hid (HC.out.step hlk hat)
      have HLt := Lib.hid hlt
      clear hs2
      go_wp2_with (at_builtin; refine wpList_append_own _ rfl _ _ 22 rfl (w.heap.size + 1) 9 i0 (.string (strB [])) 1 16 Tryd.underlying22 hi hz0 hz1 hz2 rfl (by decide) _ _ _ rfl (hrow2.alloc _) ⟨w2.heap.size, 0, none⟩ 1 1 [encStr x] rfl rfl (cell_one_new _ _ _) (by simp [Value.oneCell', encStr]) (by unfold maxLen; omega) (by omega) (by have := HW2.out; simp; omega) ?_; intro v' w3 hown' hg3 hnil3; go_frame)
      have hrg3 := (hrg2.alloc (.cells #[encStr x] 9)).kept hg3 (fun e => by have := (World.ownsRow.lt hrow2 _ e.symm).1; omega) (fun e => by have := (World.ownsRow.lt hrow2 _ e.symm).1; omega)
      go_roundw
      case rel =>
        refine ⟨_, cnt2, ss ++ [x], hrg3, by simp; omega, by simpa using hown', HCs.out, ?_, ?_⟩
        · exact (HF2.out.alloc _).grown hg3 (fun j hj hlt => by have := (World.ownsRow.lt hrow2 _ hj).1; omega)
        · have := hg3.size; have := HW2.out; simp at *; omega
      case measure => rw [hrg3.left_eq, hrg.left_eq]; exact HLt.out
end Go.Proofs.YtgmohgofcjemkaaDoor

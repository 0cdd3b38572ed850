/- What is proved: what the walks of this seat need of layers below, merged out of the texts Z34 Oja Ojb Ojc Ojd Oje (of each just what is needed). Conditions: each theorem names its own. -/
import Derived.Shelf.Abstract
import Derived.Test.YtgbhdjncccmabaaGreatDoorIb
import Derived.Test.YtgbhdjncccmabaaGreatDoorDas
import Derived.Test.YtgbhdjncccmabaaGreatDoorDba
set_option maxRecDepth 100000
/- What is proved: a row's cells are loaded at a later world. Conditions: none. -/
namespace Go.Proofs.YtgbhdjncccmabaaGreatDoor
open Go.RowKit
set_option linter.unusedVariables false
theorem load_later {w0 : World} {g n : Nat} {t : TypeId} {Z : Array Value} (h : Whole w0 g t Z) (hn : n = Z.size) {w1 : World} (f : Fr (fun _ => False) w0 w1) (q : Later w1) : (loadCellsFrom ⟨g, 0, none⟩ 0 n #[]).run Tryz.prog q.w' = .ok Z q.w' := by
  have := load_first h (f.trans q.fr (fun _ _ e => e)) (n := n) (by omega)
  rwa [List.take_of_length_le (by rw [Array.length_toList]; omega), Array.toArray_toList] at this
end Go.Proofs.YtgbhdjncccmabaaGreatDoor
/- What is proved: plain facts on lists of ids in memory and as numbers: where each lies, whether they rise, where an id stands. Conditions: none. -/
namespace Go.Proofs.YtgbhdjncccmabaaGreatDoor
open Go.RowKit
set_option linter.unusedVariables false
/-- A list's cells. -/
def flatI (ns : List Nat) : List Value := ns.flatMap fun n => (idC (dgt n)).toList
theorem flatI_cons (n : Nat) (ns : List Nat) : flatI (n :: ns) = (idC (dgt n)).toList ++ flatI ns := rfl
theorem flatI_len (ns : List Nat) : (flatI ns).length = ns.length * 32 := by
  induction ns with
  | nil => rfl
  | cons n ns ih => rw [flatI_cons, List.length_append, ih, Array.length_toList, idC_size, List.length_cons]; omega
theorem flatI_get (ns : List Nat) (i n j : Nat) (h : ns[i]? = some n) (hj : j < 32) : (flatI ns)[i * 32 + j]? = some (cellD (dgt n) j) := by
  induction ns generalizing i with
  | nil => simp at h
  | cons m ns ih =>
    rw [flatI_cons]
    have hl : (idC (dgt m)).toList.length = 32 := by rw [Array.length_toList, idC_size]
    cases i with
    | zero =>
      simp at h
      subst h
      rw [List.getElem?_append_left (by omega), Nat.zero_mul, Nat.zero_add, Array.getElem?_toList, idC_get _ j hj]
    | succ i =>
      rw [List.getElem?_append_right (by omega), hl, show (i + 1) * 32 + j - 32 = i * 32 + j by omega]
      exact ih i (by simpa using h)
theorem flatI_one (ns : List Nat) : ∀ u ∈ flatI ns, u.oneCell' = true := fun u hu => by
  obtain ⟨n, _, hn⟩ := List.mem_flatMap.1 hu
  exact (Array.all_eq_true_iff_forall_mem.1 (idC_one (dgt n))) u (by simpa using hn)
/-- One id of a list is read. -/
theorem load_at {w w' : World} {b o : Nat} {ns : List Nat} {i n : Nat} (h : Lies w (some ⟨b, o, none⟩) (flatI ns)) (hi : ns[i]? = some n) (f : Fr (fun _ => False) w w') : (loadCellsFrom ⟨b, o + i * 32, none⟩ 0 32 #[]).run Tryz.prog w' = .ok (idC (dgt n)) w' := by
  have hc : ∀ j v, (idC (dgt n)).toList[j]? = some v → w.cell? ⟨b, o + i * 32 + j, none⟩ = some v := fun j v hv => by
    have hj : j < 32 := by
      have := (List.getElem?_eq_some_iff.1 hv).1
      rwa [Array.length_toList, idC_size] at this
    rw [Array.getElem?_toList, idC_get _ j hj] at hv
    rcases h with h | ⟨b', o', hA, hc⟩
    · have := flatI_get ns i n j hi hj
      rw [h] at this
      simp at this
    · cases hA
      rw [Nat.add_assoc, ← hv]
      exact hc _ _ (flatI_get ns i n j hi hj)
  have h2 := run_loadCells_list (P := Tryz.prog) w' ⟨b, o + i * 32, none⟩ (idC (dgt n)).toList (fun j v hv => by
    rw [add_off]
    exact f.cell (hc j v hv) (fun e => e))
  rw [Array.length_toList, idC_size, Array.toArray_toList] at h2
  simpa [loadCells] using h2
theorem range_at {w w' : World} {b o : Nat} {ns : List Nat} {i n : Nat} (h : Lies w (some ⟨b, o, none⟩) (flatI ns)) (hi : ns[i]? = some n) (f : Fr (fun _ => False) w w') : w'.rangeAt b (o + i * 32) (idC (dgt n)).toList := fun j v hv => by
  have hj : j < 32 := by
    have := (List.getElem?_eq_some_iff.1 hv).1
    rwa [Array.length_toList, idC_size] at this
  rw [Array.getElem?_toList, idC_get _ j hj] at hv
  rcases h with h | ⟨b', o', hA, hc⟩
  · have := flatI_get ns i n j hi hj
    rw [h] at this
    simp at this
  · cases hA
    rw [← hv]
    refine f.cell ?_ (fun e => e)
    have := hc _ _ (flatI_get ns i n j hi hj)
    rw [← Nat.add_assoc] at this
    exact this
theorem Lies.some_of {w : World} {A : Option Addr} {ns : List Nat} (h : Lies w A (flatI ns)) (hn : 0 < ns.length) : ∃ b o, A = some ⟨b, o, none⟩ := by
  rcases h with h | ⟨b, o, rfl, _⟩
  · have := flatI_len ns
    rw [h] at this
    simp at this
    omega
  · exact ⟨b, o, rfl⟩
/-! Rising lists. -/
abbrev gt (ns : List Nat) (i : Nat) : Nat := ns.getD i 0
theorem gt_some (ns : List Nat) (i : Nat) (h : i < ns.length) : ns[i]? = some (gt ns i) := by
  rw [gt, List.getD_eq_getElem?_getD, List.getElem?_eq_getElem h]; rfl
theorem gt_mem (ns : List Nat) (i : Nat) (h : i < ns.length) : gt ns i ∈ ns := by
  rw [gt, List.getD_eq_getElem?_getD, List.getElem?_eq_getElem h]
  exact List.getElem_mem h
def ris (ns : List Nat) : Prop := ∀ i j, i < j → j < ns.length → gt ns i < gt ns j
def risB (ns : List Nat) : Bool := (List.range ns.length).all fun k => decide (k + 1 < ns.length → gt ns k < gt ns (k + 1))
theorem ris_adj (ns : List Nat) (h : ∀ k, k + 1 < ns.length → gt ns k < gt ns (k + 1)) : ris ns := by
  intro i j hij hj
  induction j with
  | zero => omega
  | succ j ih =>
    rcases Nat.lt_or_ge i j with h1 | h1
    · exact Nat.lt_trans (ih h1 (by omega)) (h j hj)
    · obtain rfl : i = j := by omega
      exact h i hj
theorem risB_iff (ns : List Nat) : risB ns = true ↔ ris ns := by
  constructor
  · intro h
    refine ris_adj ns (fun k hk => ?_)
    have := List.all_eq_true.1 h k (List.mem_range.2 (by omega))
    exact (of_decide_eq_true this) hk
  · intro h
    refine List.all_eq_true.2 (fun k _ => decide_eq_true (fun hk => h k (k + 1) (by omega) hk))
theorem risB_no (ns : List Nat) (k : Nat) (hk : k + 1 < ns.length) (h : ¬ gt ns k < gt ns (k + 1)) : risB ns = false := by
  cases hr : risB ns
  · rfl
  · exact absurd ((risB_iff ns).1 hr k (k + 1) (by omega) hk) h
/-- The place of the first one that is not below x. -/
def posN (ns : List Nat) (x : Nat) : Nat := ns.findIdx fun y => decide (x ≤ y)
theorem pos_unique (ns : List Nat) (x m : Nat) (hm : m ≤ ns.length) (h1 : ∀ i, i < m → gt ns i < x) (h2 : m < ns.length → x ≤ gt ns m) : posN ns x = m := by
  unfold posN
  rcases Nat.lt_or_ge m ns.length with h | h
  · rw [List.findIdx_eq h]
    refine ⟨decide_eq_true ?_, fun j hj => ?_⟩
    · have := h2 h
      rwa [gt, List.getD_eq_getElem?_getD, List.getElem?_eq_getElem h] at this
    · have := h1 j hj
      rw [gt, List.getD_eq_getElem?_getD, List.getElem?_eq_getElem (by omega)] at this
      simp only [Option.getD_some] at this
      exact decide_eq_false (by omega)
  · obtain rfl : m = ns.length := by omega
    rw [List.findIdx_eq_length]
    intro y hy
    obtain ⟨i, hi, rfl⟩ := List.getElem_of_mem hy
    have := h1 i hi
    rw [gt, List.getD_eq_getElem?_getD, List.getElem?_eq_getElem hi] at this
    simp only [Option.getD_some] at this
    exact decide_eq_false (by omega)
theorem pos_le (ns : List Nat) (x : Nat) : posN ns x ≤ ns.length := List.findIdx_le_length
theorem pos_below (ns : List Nat) (x i : Nat) (h : i < posN ns x) : gt ns i < x := by
  have hl := pos_le ns x
  have := List.not_of_lt_findIdx (p := fun y => decide (x ≤ y)) (xs := ns) (i := i) h
  rw [gt, List.getD_eq_getElem?_getD, List.getElem?_eq_getElem (by omega)]
  simp only [Option.getD_some]
  have := of_decide_eq_false (by simpa using this : decide (x ≤ ns[i]) = false)
  omega
theorem pos_above (ns : List Nat) (x : Nat) (h : posN ns x < ns.length) : x ≤ gt ns (posN ns x) := by
  have := List.findIdx_getElem (p := fun y => decide (x ≤ y)) (xs := ns) (w := h)
  rw [gt, List.getD_eq_getElem?_getD, List.getElem?_eq_getElem h]
  exact of_decide_eq_true this
theorem pos_above' (ns : List Nat) (hr : ris ns) (x i : Nat) (h : posN ns x ≤ i) (hi : i < ns.length) : x ≤ gt ns i := by
  have h1 := pos_above ns x (by omega)
  rcases Nat.lt_or_ge (posN ns x) i with h2 | h2
  · have := hr _ i h2 hi
    omega
  · obtain rfl : i = posN ns x := by omega
    exact h1
def hasN (ns : List Nat) (x : Nat) : Bool := decide (posN ns x < ns.length ∧ gt ns (posN ns x) = x)
/-- What Find answers. -/
def fAt (ns : List Nat) (x : Nat) : Nat := if risB ns = true then posN ns x else 0
def fHas (ns : List Nat) (x : Nat) : Bool := risB ns && hasN ns x
end Go.Proofs.YtgbhdjncccmabaaGreatDoor
/- What is proved: whether a list rises, by the program and by the document; where an id stands, by the document. Conditions: the list's cells are there. -/
namespace Go.Proofs.YtgbhdjncccmabaaGreatDoor
open Go.RowKit
set_option linter.unusedVariables false
theorem wrap_nat (k : Nat) (h : k ≤ 100000) : IntKind.i64.wrap (k : Int) = k := by rw [IntKind.wrap_i64]; omega
theorem wrap_nat1 (k : Nat) (h : k ≤ 100000) : IntKind.i64.wrap ((k : Int) + 1) = (k : Int) + 1 := by rw [IntKind.wrap_i64]; omega
theorem toNat_nat1 (k : Nat) : ((k : Int) + 1).toNat = k + 1 := by omega
theorem nonneg_nat1 (k : Nat) : (0 : Int) ≤ (k : Int) + 1 := by omega
set_option maxHeartbeats 3200000 in
theorem ORising_any (A : Option Addr) (cap : Nat) (ns : List Nat) (hb : ∀ n ∈ ns, n < big) (hn : ns.length ≤ 1000) (w : World) (h : Lies w A (flatI ns)) :
    Calls Tryz.prog 27 #[.slice A ns.length cap] w fun e w' => e = .returned (.bool (risB ns)) ∧ Below w.heap.size w w' := by
  have HL := Lib.hid h
  have HB := Lib.hid hb
  obtain ⟨L, hL⟩ : ∃ L, ns.length = L := ⟨_, rfl⟩
  have HLn := Lib.hid hL
  obtain ⟨T32, hT32⟩ : ∃ T : TypeId, T = 24 := ⟨_, rfl⟩
  obtain ⟨n32, hn32⟩ : ∃ n : Nat, n = 32 := ⟨_, rfl⟩
  have ag32 : ∀ w, (isAgg T32).run Tryz.prog w = .ok true w := by rw [hT32]; exact fun _ => by kernel_rfl
  have sz32 : ∀ w, (sizeOf T32).run Tryz.prog w = .ok n32 w := by rw [hT32, hn32]; exact fun _ => by kernel_rfl
  have HN32 := Lib.hid hn32
  rw [hL] at hn ⊢
  clear h hb hL hn32
  go_enter Tryz.func27, Tryz.ntmps27
  rw [show Op.load 24 (.tmp 13) = Op.load T32 (.tmp 13) by rw [hT32], show Op.load 24 (.tmp 17) = Op.load T32 (.tmp 17) by rw [hT32]]
  clear hT32
  go_wp2
  go_loopw [3] (fun i wr => ∃ k : Nat, (k = 0 ∨ k < L) ∧ i = .int .i64 ((k : Int) + 1) ∧ Hid (∀ j, j < k → gt ns j < gt ns (j + 1)) ∧ Fr (fun _ => False) w wr) (fun i _ => L + 1 - (intOf i).toNat)
  case atStart => exact ⟨0, by omega, rfl, Lib.hid (fun j hj => by omega), Fr.refl _ _⟩
  case round =>
    obtain ⟨k, hk, rfl, hz, hf⟩ := hrel
    have HFr := Lib.hid hf
    by_cases hlt : k + 1 < L
    · obtain ⟨b, o, hA⟩ := HL.out.some_of (by rw [HLn.out]; omega)
      subst hA
      have hka := gt_some ns k (by rw [HLn.out]; omega)
      have hkb := gt_some ns (k + 1) (by rw [HLn.out]; omega)
      have hma := HB.out _ (gt_mem ns k (by rw [HLn.out]; omega))
      have hmb := HB.out _ (gt_mem ns (k + 1) (by rw [HLn.out]; omega))
      have l1 : ∀ q : Later wr, (loadCellsFrom ⟨b, o + k * 32, none⟩ 0 n32 #[]).run Tryz.prog q.w' = .ok (idC (dgt (gt ns k))) q.w' := fun q => by rw [HN32.out]; exact load_at HL.out hka (hf.trans q.fr (fun _ _ e => e))
      have l2 : ∀ q : Later wr, (loadCellsFrom ⟨b, o + (k + 1) * 32, none⟩ 0 n32 #[]).run Tryz.prog q.w' = .ok (idC (dgt (gt ns (k + 1)))) q.w' := fun q => by rw [HN32.out]; exact load_at HL.out hkb (hf.trans q.fr (fun _ _ e => e))
      have cc := fun w => OCompare_any (gt ns k) (gt ns (k + 1)) hma hmb w
      obtain ⟨r, hr⟩ : ∃ r, cmpN (gt ns k) (gt ns (k + 1)) = r := ⟨_, rfl⟩
      obtain ⟨ca, hca⟩ : ∃ c, idC (dgt (gt ns k)) = c := ⟨_, rfl⟩
      obtain ⟨cb, hcb⟩ : ∃ c, idC (dgt (gt ns (k + 1))) = c := ⟨_, rfl⟩
      rw [hca] at l1 cc
      rw [hcb] at l2 cc
      rw [hr] at cc
      have HRr := Lib.hid hr
      have CC := Lib.hid cc
      have hk1 : (k : Int) + 1 < L := by omega
      have hk0 : (k : Int) < L := by omega
      have wk := wrap_nat k (by omega)
      have wk1 := wrap_nat1 k (by omega)
      have tn1 := toNat_nat1 k
      have nn1 := nonneg_nat1 k
      clear hka hkb hma hmb cc hca hcb hr hf hk
      by_cases hge : gt ns k < gt ns (k + 1)
      · have hr0 : r = -1 := by rw [← HRr.out, cmpN, if_pos hge]
        have HG := Lib.hid hge
        subst hr0
        clear hge
        go_wp2_with fail
        refine wp_region_later (w0 := wr) (Fr.refl _ _) (by kernel_rfl) (by kernel_rfl) ?_
        repeat (quiet_step ((go_at_call 43; refine Calls.later_of (CC.out _))))
        refine wpQuiet_nil ?_
        intro _ hw'
        obtain ⟨q, hw''⟩ := hw'
        subst hw''
        go_wp2_with fail
        go_roundw
        case rel => exact ⟨k + 1, by omega, by go_num, Lib.hid (fun j hj => (by omega : j < k ∨ j = k).elim (hz.out j) (fun e => e ▸ HG.out)), HFr.out.trans q.fr (fun _ _ e => e)⟩
        case measure => simp [intOf]; omega
      · have hr0 : decide (0 ≤ r) = true := decide_eq_true (by rw [← HRr.out, cmpN, if_neg hge]; split <;> omega)
        have HZ := Lib.hid (risB_no ns k (by rw [HLn.out]; exact hlt) hge)
        clear hge
        go_wp2_with fail
        refine wp_region_later (w0 := wr) (Fr.refl _ _) (by kernel_rfl) (by kernel_rfl) ?_
        repeat (quiet_step ((go_at_call 43; refine Calls.later_of (CC.out _))))
        refine wpQuiet_nil ?_
        intro _ hw'
        obtain ⟨q, hw''⟩ := hw'
        subst hw''
        go_wp2_with fail
        go_ret
        exact ⟨by rw [HZ.out]; rfl, (HFr.out.trans q.fr (fun _ _ e => e)).below (fun _ _ e => e)⟩
    · have HZ := Lib.hid ((risB_iff ns).2 (ris_adj ns (fun j hj => hz.out j (by rw [HLn.out] at hj; omega))))
      have hk1 : ¬ ((k : Int) + 1 < L) := by omega
      have wk1 := wrap_nat1 k (by omega)
      clear hk
      go_wp2_with fail
      go_ret
      exact ⟨by rw [HZ.out]; rfl, HFr.out.below (fun _ _ e => e)⟩
end Go.Proofs.YtgbhdjncccmabaaGreatDoor
/- What is proved: what the library's search finds; where an id stands, by the program. Conditions: the list's cells are there. -/
namespace Go.Proofs.YtgbhdjncccmabaaGreatDoor
open Go.RowKit
set_option linter.unusedVariables false
/-- What a search has found: as far as it, all say no; there, if it is a place, yes. -/
structure Found (n : Nat) (p : Nat → Bool) (m : Nat) : Prop where
  le : m ≤ n
  below : ∀ i, i < m → p i = false
  here : m < n → p m = true
set_option maxHeartbeats 3200000 in
theorem GSearch_any (g : Nat) (cb : Array Value) (n : Nat) (p : Nat → Bool) (w : World) (eg : ∀ args w, (callFunc g args).run Tryz.prog w = .ok (.enter g args) w) (hn : n ≤ 1000)
    (hf : ∀ (q : Later w) (i : Nat), i < n → Calls Tryz.prog g (#[.int .i64 i] ++ cb) q.w' fun e w' => e = .returned (.bool (p i)) ∧ Below q.w'.heap.size q.w' w')
    (hmono : ∀ a b, a ≤ b → b < n → p a = true → p b = true) :
    Calls Tryz.prog 57 #[.int .i64 n, .func (.func g) #[] cb] w fun e w' => ∃ m, e = .returned (.int .i64 (m : Nat)) ∧ Found n p m ∧ Below w.heap.size w w' := by
  have HFn := Lib.hid hf
  have HM := Lib.hid hmono
  clear hf hmono
  go_enter Tryz.func57, Tryz.ntmps57
  go_wp2
  go_loopw [5, 6] (fun s5 s6 wr => ∃ lo hi : Nat, s5 = .int .i64 lo ∧ s6 = .int .i64 hi ∧ lo ≤ hi ∧ hi ≤ n ∧ Fr (fun _ => False) w wr ∧ Hid ((∀ t, t < lo → p t = false) ∧ (∀ t, hi ≤ t → t < n → p t = true))) (fun s5 s6 _ => (intOf s6).toNat - (intOf s5).toNat)
  case atStart => exact ⟨0, n, rfl, rfl, by omega, by omega, Fr.refl _ _, Lib.hid ⟨fun t ht => by omega, fun t h1 h2 => by omega⟩⟩
  case round =>
    obtain ⟨lo, hi, rfl, rfl, hlh, hin, hfr, hI⟩ := hrel
    by_cases hlt : lo < hi
    · have hc := HFn.out ⟨wr, hfr⟩ ((lo + hi) / 2) (by omega)
      simp only at hc
      rw [show (((lo + hi) / 2 : Nat) : Int) = ((lo : Int) + (hi : Int)) / 2 by omega] at hc
      have HFr := Lib.hid hfr
      obtain ⟨b, hp⟩ : ∃ b, p ((lo + hi) / 2) = b := ⟨_, rfl⟩
      rw [hp] at hc
      have HP := Lib.hid hp
      clear hp hfr
      cases b
      · go_wp2_with (go_at_fn g; refine hc.mono ?_; rintro e w3 ⟨rfl, b3⟩)
        have HF3 := Lib.hid (HFr.out.then_below b3)
        go_roundw
        case rel =>
          refine ⟨(lo + hi) / 2 + 1, hi, by rw [show ((lo : Int) + (hi : Int)) / 2 + 1 = (((lo + hi) / 2 + 1 : Nat) : Int) by omega], rfl, by omega, hin, HF3.out, Lib.hid ⟨fun t ht => ?_, hI.out.2⟩⟩
          cases h : p t with
          | false => rfl
          | true =>
            have := HM.out t ((lo + hi) / 2) (by omega) (by omega) h
            rw [HP.out] at this
            cases this
        case measure => simp [intOf]; omega
      · go_wp2_with (go_at_fn g; refine hc.mono ?_; rintro e w3 ⟨rfl, b3⟩)
        have HF3 := Lib.hid (HFr.out.then_below b3)
        go_roundw
        case rel => exact ⟨lo, (lo + hi) / 2, rfl, by rw [show ((lo : Int) + (hi : Int)) / 2 = (((lo + hi) / 2 : Nat) : Int) by omega], by omega, by omega, HF3.out, Lib.hid ⟨hI.out.1, fun t ht htn => HM.out ((lo + hi) / 2) t ht htn HP.out⟩⟩
        case measure => simp [intOf]; omega
    · obtain rfl : hi = lo := by omega
      have HFr := Lib.hid hfr
      clear hfr
      go_wp2_with fail
      go_ret
      exact ⟨hi, rfl, ⟨hin, hI.out.1, fun h => hI.out.2 hi (Nat.le_refl _) h⟩, HFr.out.below (fun _ _ e => e)⟩
set_option maxHeartbeats 3200000 in
/-- The question that Find asks of a place. -/
theorem OFind1_any (gl gx b o cap : Nat) (ns : List Nat) (x : Nat) (hb : ∀ n ∈ ns, n < big) (hx : x < big) (hn : ns.length ≤ 1000) (i : Nat) (hi : i < ns.length) (w : World)
    (hl : w.cell? ⟨gl, 0, none⟩ = some (.slice (some ⟨b, o, none⟩) ns.length cap)) (hX : Whole w gx 24 (idC (dgt x))) (h : Lies w (some ⟨b, o, none⟩) (flatI ns)) :
    Calls Tryz.prog 84 #[.int .i64 i, .pointer (some ⟨gl, 0, none⟩), .pointer (some ⟨gx, 0, none⟩)] w fun e w' => e = .returned (.bool (decide (x ≤ gt ns i))) ∧ Below w.heap.size w w' := by
  obtain ⟨T32, hT32⟩ : ∃ T : TypeId, T = 24 := ⟨_, rfl⟩
  obtain ⟨n32, hn32⟩ : ∃ n : Nat, n = 32 := ⟨_, rfl⟩
  have ag32 : ∀ w, (isAgg T32).run Tryz.prog w = .ok true w := by rw [hT32]; exact fun _ => by kernel_rfl
  have sz32 : ∀ w, (sizeOf T32).run Tryz.prog w = .ok n32 w := by rw [hT32, hn32]; exact fun _ => by kernel_rfl
  have hma := hb _ (gt_mem ns i hi)
  have l0 : ∀ q : Later w, q.w'.cell? ⟨gl, 0, none⟩ = some (.slice (some ⟨b, o, none⟩) ns.length cap) := fun q => q.fr.cell hl (fun e => e)
  have l1 : ∀ q : Later w, (loadCellsFrom ⟨b, o + i * 32, none⟩ 0 n32 #[]).run Tryz.prog q.w' = .ok (idC (dgt (gt ns i))) q.w' := fun q => by rw [hn32]; exact load_at h (gt_some ns i hi) q.fr
  have l2 : ∀ q : Later w, (loadCellsFrom ⟨gx, 0, none⟩ 0 n32 #[]).run Tryz.prog q.w' = .ok (idC (dgt x)) q.w' := fun q => load_later hX (by rw [idC_size]; exact hn32) (Fr.refl _ w) q
  have cc := fun w => OCompare_any (gt ns i) x hma hx w
  have hd : decide (x ≤ gt ns i) = decide (0 ≤ cmpN (gt ns i) x) := by
    rw [decide_eq_decide, cmpN]
    split
    · omega
    · split <;> omega
  rw [hd]
  obtain ⟨r, hr⟩ : ∃ r, cmpN (gt ns i) x = r := ⟨_, rfl⟩
  obtain ⟨ca, hca⟩ : ∃ c, idC (dgt (gt ns i)) = c := ⟨_, rfl⟩
  obtain ⟨cx, hcx⟩ : ∃ c, idC (dgt x) = c := ⟨_, rfl⟩
  obtain ⟨L, hL⟩ : ∃ L, ns.length = L := ⟨_, rfl⟩
  rw [hca, hcx, hr] at cc
  rw [hca] at l1
  rw [hcx] at l2
  rw [hr]
  rw [hL] at hn hi l0
  have CC := Lib.hid cc
  have hi0 : (i : Int) < L := by omega
  have wk := wrap_nat i (by omega)
  clear hca hcx hr cc hL hd hma hl hX h hb hx hn32
  go_enter Tryz.func84, Tryz.ntmps84
  rw [show Op.load 24 (.tmp 7) = Op.load T32 (.tmp 7) by rw [hT32], show Op.load 24 (.tmp 2) = Op.load T32 (.tmp 2) by rw [hT32]]
  clear hT32
  go_wp2_with fail
  refine wp_region_later (w0 := w) (Fr.refl _ _) (by kernel_rfl) (by kernel_rfl) ?_
  repeat (quiet_step ((go_at_call 43; refine Calls.later_of (CC.out _))))
  refine wpQuiet_nil ?_
  intro _ hw'
  obtain ⟨q, hw''⟩ := hw'
  subst hw''
  go_wp2_with fail
  go_ret
  exact ⟨rfl, q.fr.below (fun _ _ e => e)⟩
end Go.Proofs.YtgbhdjncccmabaaGreatDoor
/- What is proved: where an id stands, by the program. Conditions: the list's cells are there. -/
namespace Go.Proofs.YtgbhdjncccmabaaGreatDoor
open Go.RowKit
set_option linter.unusedVariables false
theorem one_cell (w : World) (v : Value) (t : TypeId) : (w.alloc (.cells #[v] t)).cell? ⟨w.heap.size, 0, none⟩ = some v := by
  rw [(Whole.new w t #[v]).cell]; rfl
set_option maxHeartbeats 3200000 in
theorem OFind_any (A : Option Addr) (cap : Nat) (ns : List Nat) (x : Nat) (hb : ∀ n ∈ ns, n < big) (hx : x < big) (hn : ns.length ≤ 1000) (w : World) (h : Lies w A (flatI ns)) :
    Calls Tryz.prog 56 #[.slice A ns.length cap, .agg (idC (dgt x))] w fun e w' => e = .returned (.tuple #[.int .i64 (fAt ns x), .bool (fHas ns x)]) ∧ Below w.heap.size w w' := by
  obtain ⟨w0, hw0⟩ : ∃ w0, w.alloc (.cells #[.slice A ns.length cap] 51) = w0 := ⟨_, rfl⟩
  obtain ⟨w1, hw1⟩ : ∃ w1, w0.alloc (.cells (idC (dgt x)) 24) = w1 := ⟨_, rfl⟩
  have hF0 : Fr (fun _ => False) w w0 := by subst hw0; exact (Fr.refl _ w).alloc _
  have hF1 : Fr (fun _ => False) w0 w1 := by subst hw1; exact (Fr.refl _ w0).alloc _
  have hF := hF0.trans hF1 (fun _ _ e => e)
  have hC0 : w1.cell? ⟨w.heap.size, 0, none⟩ = some (.slice A ns.length cap) := by subst hw0; exact hF1.cell (one_cell w _ _) (fun e => e)
  have hX : Whole w1 w0.heap.size 24 (idC (dgt x)) := by subst hw1; exact Whole.new w0 24 _
  have hl1 := h.fr hF (fun _ _ e => e)
  have hcr := ORising_any A cap ns hb hn w1 hl1
  have HL := Lib.hid hl1
  have HB := Lib.hid hb
  have HF := Lib.hid hF
  have HX := Lib.hid hX
  have HC0 := Lib.hid hC0
  have HXB := Lib.hid hx
  have eg : ∀ args w, (callFunc 84 args).run Tryz.prog w = .ok (.enter 84 args) w := enters_of Tryz.func84 (by kernel_rfl) rfl
  have EG := Lib.hid eg
  have hmf : ∀ (fn : Fn) (first cap : Array Value) (w : World), (Instr.makeFunc fn first cap).run Tryz.prog w = .ok (.func fn first cap) w := fun _ _ _ _ => rfl
  have HSE := Lib.hid (fun (w2 : World) (hf2 : Fr (fun _ => False) w1 w2) (hr : ris ns) => show Calls Tryz.prog 57 #[.int .i64 ns.length, .func (.func 84) #[] #[.pointer (some ⟨w.heap.size, 0, none⟩), .pointer (some ⟨w0.heap.size, 0, none⟩)]] w2 fun e w' => ∃ m, e = .returned (.int .i64 (m : Nat)) ∧ Found ns.length (fun i => decide (x ≤ gt ns i)) m ∧ Below w2.heap.size w2 w' from by
    refine GSearch_any 84 _ ns.length _ w2 EG.out hn (fun q i hi => ?_) (fun a c hac hc ha => ?_)
    · obtain ⟨b, o, hA⟩ := HL.out.some_of (by omega)
      subst hA
      exact OFind1_any w.heap.size w0.heap.size b o cap ns x HB.out HXB.out hn i hi q.w' ((hf2.trans q.fr (fun _ _ e => e)).cell HC0.out (fun e => e)) (HX.out.fr (hf2.trans q.fr (fun _ _ e => e)) (fun e => e)) (HL.out.fr (hf2.trans q.fr (fun _ _ e => e)) (fun _ _ e => e))
    · have h1 := of_decide_eq_true ha
      refine decide_eq_true ?_
      rcases Nat.lt_or_ge a c with h2 | h2
      · have := hr a c h2 hc
        omega
      · obtain rfl : a = c := by omega
        exact h1)
  obtain ⟨L, hL⟩ : ∃ L, ns.length = L := ⟨_, rfl⟩
  have HLn := Lib.hid hL
  obtain ⟨cx, hcx⟩ : ∃ c, idC (dgt x) = c := ⟨_, rfl⟩
  have HCX := Lib.hid hcx
  obtain ⟨T32, hT32⟩ : ∃ T : TypeId, T = 24 := ⟨_, rfl⟩
  obtain ⟨n32, hn32⟩ : ∃ n : Nat, n = 32 := ⟨_, rfl⟩
  have ag32 : ∀ w, (isAgg T32).run Tryz.prog w = .ok true w := by rw [hT32]; exact fun _ => by kernel_rfl
  have sz32 : ∀ w, (sizeOf T32).run Tryz.prog w = .ok n32 w := by rw [hT32, hn32]; exact fun _ => by kernel_rfl
  have hgi := guardI
  have HN32 := Lib.hid hn32
  rw [hL] at hn hcr hC0 hw0 HSE ⊢
  rw [hcx] at hw1 ⊢
  have HCR := Lib.hid hcr
  clear h hb hL hn32 hF0 hF1 hF hX hl1 hx hcx hcr eg
  by_cases hr : risB ns = true
  · have HR := Lib.hid hr
    rw [hr] at HCR
    have HAT : Hid (fAt ns x = posN ns x) := Lib.hid (by rw [fAt, if_pos hr])
    have HHA : Hid (fHas ns x = hasN ns x) := Lib.hid (by rw [fHas, hr, Bool.true_and])
    rw [HAT.out, HHA.out]
    clear hr
    go_enter Tryz.func56, Tryz.ntmps56
    rw [show Op.load 24 (.tmp 22) = Op.load T32 (.tmp 22) by rw [hT32], show Op.load 24 (.tmp 3) = Op.load T32 (.tmp 3) by rw [hT32]]
    clear hT32
    go_wp2_with (first
      | (go_at_call 57; refine (HSE.out _ F2 ((risB_iff ns).1 HR.out)).mono ?_; rintro e w3 ⟨m, rfl, hfo, b3⟩)
      | (go_at_call 27; refine HCR.out.mono ?_; rintro e w2 ⟨rfl, b2⟩
         have F2 := (Fr.refl (fun _ => False) w1).then_below b2
         have hC2 := F2.cell HC0.out (fun e => e)
         rw [HLn.out] at hC2))
    clear hw0 hw1
    have HF3 := Lib.hid (F2.then_below b3)
    have HFO := Lib.hid hfo
    have hm := hfo.le
    have HPO := Lib.hid (pos_unique ns x m (by rw [HLn.out]; exact hm) (fun i hi => by have := of_decide_eq_false (hfo.below i hi); omega) (fun hlt => of_decide_eq_true (hfo.here (by rw [← HLn.out]; exact hlt))))
    have l0 : ∀ q : Later w3, q.w'.cell? ⟨w.heap.size, 0, none⟩ = some (.slice A L cap) := fun q => by
      have := (HF3.out.trans q.fr (fun _ _ e => e)).cell HC0.out (fun e => e)
      rwa [HLn.out] at this
    have l2 : ∀ q : Later w3, (loadCellsFrom ⟨w0.heap.size, 0, none⟩ 0 n32 #[]).run Tryz.prog q.w' = .ok cx q.w' := fun q => by rw [← HCX.out]; exact load_later HX.out (by rw [idC_size]; exact HN32.out) HF3.out q
    clear hfo F2 b2 b3 hC0 hC2
    by_cases hlt : m < L
    · obtain ⟨b, o, hA⟩ := HL.out.some_of (by rw [HLn.out]; omega)
      subst hA
      have hma := HB.out _ (gt_mem ns m (by rw [HLn.out]; omega))
      have l1 : ∀ q : Later w3, (loadCellsFrom ⟨b, o + m * 32, none⟩ 0 n32 #[]).run Tryz.prog q.w' = .ok (idC (dgt (gt ns m))) q.w' := fun q => by rw [HN32.out]; exact load_at HL.out (gt_some ns m (by rw [HLn.out]; exact hlt)) (HF3.out.trans q.fr (fun _ _ e => e))
      have heq := fun w => eq_nums (gt ns m) x hma HXB.out w
      obtain ⟨s, hs⟩ : ∃ s, (gt ns m == x) = s := ⟨_, rfl⟩
      obtain ⟨ca, hca⟩ : ∃ c, idC (dgt (gt ns m)) = c := ⟨_, rfl⟩
      rw [hca] at l1 heq
      rw [hs, HCX.out] at heq
      have HHS : Hid (hasN ns x = s) := Lib.hid (by
        rw [hasN, HPO.out, ← hs, Bool.eq_iff_iff, decide_eq_true_eq, beq_iff_eq]
        exact ⟨fun e => e.2, fun e => ⟨by rw [HLn.out]; exact hlt, e⟩⟩)
      have hm0 : (m : Int) < L := by omega
      have hd0 : decide ((m : Int) < L) = true := decide_eq_true hm0
      have wk := wrap_nat m (by omega)
      clear hma hca hs hlt hm
      refine wp_region_later (w0 := w3) (Fr.refl _ _) (by kernel_rfl) (by kernel_rfl) ?_
      repeat (quiet_step (fail))
      refine wpQuiet_nil ?_
      intro _ hw'
      obtain ⟨q, hw''⟩ := hw'
      subst hw''
      go_wp2_with fail
      go_ret2
      exact ⟨by rw [HPO.out, HHS.out]; rfl, (HF.out.trans (HF3.out.trans q.fr (fun _ _ e => e)) (fun _ _ e => e)).below (fun _ _ e => e)⟩
    · have HHS : Hid (hasN ns x = false) := Lib.hid (by rw [hasN, HPO.out, HLn.out]; exact decide_eq_false (fun e => hlt e.1))
      have hm0 : ¬ ((m : Int) < L) := by omega
      have hd0 : decide ((m : Int) < L) = false := decide_eq_false hm0
      clear hlt hm
      refine wp_region_later (w0 := w3) (Fr.refl _ _) (by kernel_rfl) (by kernel_rfl) ?_
      repeat (quiet_step (fail))
      refine wpQuiet_nil ?_
      intro _ hw'
      obtain ⟨q, hw''⟩ := hw'
      subst hw''
      go_wp2_with fail
      go_ret2
      exact ⟨by rw [HPO.out, HHS.out]; rfl, (HF.out.trans (HF3.out.trans q.fr (fun _ _ e => e)) (fun _ _ e => e)).below (fun _ _ e => e)⟩
  · have hr' : risB ns = false := by simpa using hr
    rw [hr'] at HCR
    have HAT : Hid (fAt ns x = 0) := Lib.hid (by rw [fAt, if_neg hr])
    have HHA : Hid (fHas ns x = false) := Lib.hid (by rw [fHas, hr', Bool.false_and])
    rw [HAT.out, HHA.out]
    clear hr hr'
    go_enter Tryz.func56, Tryz.ntmps56
    go_wp2_with (go_at_call 27; refine HCR.out.mono ?_; rintro e w2 ⟨rfl, b2⟩)
    go_ret2
    exact ⟨rfl, (HF.out.then_below b2).below (fun _ _ e => e)⟩
end Go.Proofs.YtgbhdjncccmabaaGreatDoor
/- What is proved: lists of ids of the call's own, pieces of lists, and a list put in order by putting one after another into its place. Conditions: none. -/
namespace Go.Proofs.YtgbhdjncccmabaaGreatDoor
open Go.RowKit
set_option linter.unusedVariables false
theorem flatI_take (ns : List Nat) (m : Nat) : flatI (ns.take m) = (flatI ns).take (m * 32) := by
  induction ns generalizing m with
  | nil => simp [flatI]
  | cons n ns ih =>
    cases m with
    | zero => simp [flatI]
    | succ m =>
      have hl : (idC (dgt n)).toList.length = 32 := by rw [Array.length_toList, idC_size]
      rw [List.take_succ_cons, flatI_cons, flatI_cons, ih, show (m + 1) * 32 = 32 + m * 32 by omega, List.take_append, hl, List.take_of_length_le (l := (idC (dgt n)).toList) (by omega), show 32 + m * 32 - 32 = m * 32 by omega]
theorem flatI_drop (ns : List Nat) (m : Nat) : flatI (ns.drop m) = (flatI ns).drop (m * 32) := by
  induction ns generalizing m with
  | nil => simp [flatI]
  | cons n ns ih =>
    cases m with
    | zero => simp
    | succ m =>
      have hl : (idC (dgt n)).toList.length = 32 := by rw [Array.length_toList, idC_size]
      rw [List.drop_succ_cons, flatI_cons, ih, show (m + 1) * 32 = 32 + m * 32 by omega, List.drop_append, hl, List.drop_of_length_le (l := (idC (dgt n)).toList) (by omega), List.nil_append, show 32 + m * 32 - 32 = m * 32 by omega]
theorem Lies.take {w : World} {A : Option Addr} {xs : List Value} (h : Lies w A xs) (m : Nat) : Lies w A (xs.take m) := by
  rcases h with rfl | ⟨b, o, rfl, hc⟩
  · exact .inl (by simp)
  · refine .inr ⟨b, o, rfl, fun j u hu => hc j u ?_⟩
    rw [List.getElem?_take] at hu
    split at hu
    · exact hu
    · simp at hu
/-- Where the rest of a list lies. -/
def tlA (A : Option Addr) (c m : Nat) : Option Addr := if c = m then A else A.map (·.add (m * 32))
theorem Lies.tl {w : World} {A : Option Addr} {ns : List Nat} (h : Lies w A (flatI ns)) (c m : Nat) (hc : ns.length ≤ c) : Lies w (tlA A c m) (flatI (ns.drop m)) := by
  unfold tlA
  split
  · rename_i e
    have hd : ns.drop m = [] := List.drop_of_length_le (by omega)
    rw [hd]
    exact .inl rfl
  · rcases h with h | ⟨b, o, rfl, hcl⟩
    · have : ns = [] := by
        have := flatI_len ns
        rw [h] at this
        simp at this
        exact List.eq_nil_of_length_eq_zero (by omega)
      subst this
      exact .inl (by simp [flatI])
    · refine .inr ⟨b, o + m * 32, by simp [add_off], fun j u hu => ?_⟩
      rw [flatI_drop, List.getElem?_drop] at hu
      rw [Nat.add_assoc]
      exact hcl _ _ hu
theorem Lies.src32 {w : World} {A : Option Addr} {ns : List Nat} (h : Lies w A (flatI ns)) {n : Nat} (hn : ns.length = n) (c : Nat) : Src Tryz.prog 32 51 (.slice A n c) n (flatI ns) w := by
  subst hn
  rcases A with _ | ad
  · have h0 : ns = [] := by
      rcases h with h | ⟨b, o, h, _⟩
      · have := flatI_len ns
        rw [h] at this
        simp at this
        exact List.eq_nil_of_length_eq_zero (by omega)
      · cases h
    subst h0
    exact Src.ofNil w Tryz.underlying51 c
  · refine Src.ofSlice w Tryz.underlying51 ad ns.length c (flatI ns) (flatI_len ns) (fun j u hu => ?_) (flatI_one ns)
    rcases h with h | ⟨b, o, h, hc⟩
    · rw [h] at hu; simp at hu
    · injection h with h
      subst h
      rw [add_off]
      exact hc j u hu
theorem Lies.of_own32 {w : World} {base : Nat} {e : TypeId} {A : Option Addr} {n c : Nat} {xs : List Value} (h : w.ownsRow base e 32 (.slice A n c) n xs) : Lies w A xs := by
  rcases own_shape h with ⟨_, _, h0⟩ | ⟨g, cap, hv, _⟩
  · exact .inl h0
  · injection hv with h1 h2 h3
    subst h1; subst h3
    refine .inr ⟨g, 0, rfl, fun j u hu => ?_⟩
    have := World.ownsRow.cells h (g := g) rfl j u hu
    rwa [add_off] at this
theorem slice_hd (A : Option Addr) (hA : A = none ∨ ∃ b o, A = some ⟨b, o, none⟩) (n c m : Nat) (h : m ≤ c) (w : World) : (Instr.slice 51 (.slice A n c) none (some (.int .i64 m)) none).run Tryz.prog w = .ok (.slice A m c) w := by
  have hs : (sizeOf (Tryz.prog.elem 51)).run Tryz.prog w = .ok 32 w := by kernel_rfl
  have ht : Tryz.prog.underlying 51 = some (.slice (Tryz.prog.elem 51)) := by kernel_rfl
  have e := run_slice_h (P := Tryz.prog) w 51 A n c ht .i64 (m : Int) (by omega) (by omega)
  rw [e, hs]
  rcases hA with rfl | ⟨b, o, rfl⟩
  · simp [sliced]
  · simp [sliced, add_off]
theorem slice_tl (A : Option Addr) (n c m : Nat) (h : m ≤ n) (w : World) : (Instr.slice 51 (.slice A n c) (some (.int .i64 m)) none none).run Tryz.prog w = .ok (.slice (tlA A c m) (n - m) (c - m)) w := by
  have hs : (sizeOf (Tryz.prog.elem 51)).run Tryz.prog w = .ok 32 w := by kernel_rfl
  have ht : Tryz.prog.underlying 51 = some (.slice (Tryz.prog.elem 51)) := by kernel_rfl
  have e := run_slice_l (P := Tryz.prog) w 51 A n c ht .i64 (m : Int) (by omega) (by omega)
  rw [e, hs]
  simp [sliced, tlA]
/-- A list of one id, made by the call. -/
theorem build_one (D : Nat → Nat) (w : World) : (Instr.buildSlice 51 1 #[(0, .agg (idC D))]).run Tryz.prog w = .ok (.slice (some ⟨w.heap.size, 0, none⟩) 1 1) (w.alloc (.cells (idC D) 24)) := by kernel_rfl
theorem wpList_build_one {ops : Array Oper} {rest : List Oper} {o : Oper} {a : Act} {w : World} {Q : Exit → Act → World → Prop} (hgd : o.guard = none) (x : Operand) (ho : o.op = .buildSlice 51 1 #[(0, x)])
    (D : Nat → Nat) (hx : a.eval x = .agg (idC D)) (h : wpList Tryz.prog ops Q rest (a.put o.dst (.slice (some ⟨w.heap.size, 0, none⟩) 1 1)) (w.alloc (.cells (idC D) 24))) : wpList Tryz.prog ops Q (o :: rest) a w :=
  wpList_plain hgd fun K hK => by
    unfold Oper.wp execOp
    have e : (#[((0 : Nat), x)].map fun (i, y) => (i, a.eval y)) = #[(0, .agg (idC D))] := by simp [hx]
    simp only [ho, e, Sem.run_bind, build_one, Result.andThen_ok, Sem.run_pure]
    exact hK _ _ h
theorem src_one32 (w : World) (n : Nat) : Src Tryz.prog 32 51 (.slice (some ⟨w.heap.size, 0, none⟩) 1 1) 1 (flatI [n]) (w.alloc (.cells (idC (dgt n)) 24)) := by
  refine Lies.src32 (ns := [n]) (.inr ⟨w.heap.size, 0, rfl, fun j u hu => ?_⟩) rfl 1
  rw [Nat.zero_add, (Whole.new w 24 (idC (dgt n))).cell]
  simpa [flatI] using hu
/-- A list of the call's own. -/
def OwnI (w0 w : World) (v : Value) (ns : List Nat) : Prop := w.ownsRow w0.heap.size 24 32 v ns.length (flatI ns) ∧ Fr (fun _ => False) w0 w
theorem OwnI.slice {w0 w : World} {v : Value} {ns : List Nat} (h : OwnI w0 w v ns) : ∃ A c, v = .slice A ns.length c ∧ ns.length ≤ c ∧ c ≤ maxLen ∧ (A = none ∨ ∃ b o, A = some ⟨b, o, none⟩) ∧ Lies w A (flatI ns) := by
  rcases own_shape h.1 with ⟨hv, h0, _⟩ | ⟨g, cap, hv, h1, h2, _⟩
  · subst hv
    exact ⟨none, 0, by rw [h0], by omega, Nat.zero_le _, .inl rfl, .inl (by rw [List.eq_nil_of_length_eq_zero h0]; rfl)⟩
  · subst hv
    exact ⟨_, cap, rfl, h1, h2, .inr ⟨g, 0, rfl⟩, Lies.of_own32 h.1⟩
theorem OwnI.fr {w0 w w' : World} {v : Value} {ns : List Nat} (h : OwnI w0 w v ns) (f : Fr (fun _ => False) w w') : OwnI w0 w' v ns := ⟨own_fr h.1 f (fun _ _ e => e), h.2.trans f (fun _ _ e => e)⟩
theorem OwnI.nil {w0 w : World} (f : Fr (fun _ => False) w0 w) : OwnI w0 w (.slice none 0 0) [] := ⟨World.ownsRow_nil w w0.heap.size 24 32, f⟩
end Go.Proofs.YtgbhdjncccmabaaGreatDoor

/- What is proved: plain facts on orders: who is ready, who is the youngest, one taken after the other; the document's In and Times. Conditions: the cells are there. -/
import Derived.Test.YtpaigmmpihcdaaaOd
import Derived.Shelf.Abstract
import Derived.Deep.DeepCutAuto
import Derived.BigQuiet
namespace Go.Proofs.Ytpaigmmpihcdaaa
open Go.RowKit Go.Shelf
set_option linter.unusedVariables false

/-- Those that are left and that no one left has as a parent. -/
def rdyTo (pr : Nat → List Nat) (left : Nat → Bool) (n k : Nat) : Bool := left k && !((List.range n).any fun m => left m && decide (k ∈ pr m))
def rdyB (pr : Nat → List Nat) (N : Nat) (left : Nat → Bool) (k : Nat) : Bool := rdyTo pr left N k
theorem rdyTo_succ (pr : Nat → List Nat) (left : Nat → Bool) (n k : Nat) : rdyTo pr left (n + 1) k = (rdyTo pr left n k && !(left n && decide (k ∈ pr n))) := by
  unfold rdyTo
  rw [List.range_succ, List.any_append, List.any_cons, List.any_nil, Bool.or_false, Bool.not_or, Bool.and_assoc]
/-- The youngest of some, by some numbers; of one number the greater one. -/
def yng (f : Nat → Bool) (t : Nat → Int) : Nat → Option Nat
  | 0 => none
  | n + 1 => if f n = true then (match yng f t n with | none => some n | some m => if t n ≥ t m then some n else some m) else yng f t n
def yV (o : Option Nat) : Int := match o with | none => -1 | some n => (n : Int)
theorem yng_mem (f : Nat → Bool) (t : Nat → Int) : ∀ (n m : Nat), yng f t n = some m → m < n ∧ f m = true
  | 0, m, h => by cases h
  | n + 1, m, h => by
    rw [yng] at h
    by_cases e : f n = true
    · rw [if_pos e] at h
      cases hy : yng f t n with
      | none => rw [hy] at h; injection h with h; subst h; exact ⟨by omega, e⟩
      | some k =>
        rw [hy] at h
        simp only at h
        by_cases e2 : t n ≥ t k
        · rw [if_pos e2] at h; injection h with h; subst h; exact ⟨by omega, e⟩
        · rw [if_neg e2] at h; injection h with h; subst h
          have := yng_mem f t n k hy
          exact ⟨by omega, this.2⟩
    · rw [if_neg e] at h
      have := yng_mem f t n m h
      exact ⟨by omega, this.2⟩
theorem yng_none (f : Nat → Bool) (t : Nat → Int) : ∀ (n : Nat), yng f t n = none → ∀ k, k < n → f k = false
  | 0, _, k, hk => by omega
  | n + 1, h, k, hk => by
    rw [yng] at h
    by_cases e : f n = true
    · rw [if_pos e] at h
      cases hy : yng f t n with
      | none => rw [hy] at h; cases h
      | some m =>
        rw [hy] at h
        simp only at h
        split at h <;> cases h
    · rw [if_neg e] at h
      rcases (by omega : k < n ∨ k = n) with h2 | rfl
      · exact yng_none f t n h k h2
      · simpa using e
/-- One taken out. -/
def outB (left : Nat → Bool) (n k : Nat) : Bool := if k = n then false else left k
/-- One after the other is picked, till none is. -/
def takeY (pick : (Nat → Bool) → Option Nat) : Nat → (Nat → Bool) → List Nat
  | 0, _ => []
  | c + 1, left => match pick left with | none => [] | some n => n :: takeY pick c (outB left n)
def cnt (left : Nat → Bool) (N : Nat) : Nat := (selB left N).length
theorem cnt_succ (f : Nat → Bool) (n : Nat) : cnt f (n + 1) = cnt f n + (if f n = true then 1 else 0) := by
  unfold cnt
  rw [selB_succ, List.length_append]
  by_cases e : f n = true
  · rw [if_pos e, if_pos e]; rfl
  · rw [if_neg e, if_neg e]; rfl
theorem cnt_out (left : Nat → Bool) (m : Nat) : ∀ (N : Nat), m < N → left m = true → cnt (outB left m) N + 1 = cnt left N
  | 0, h, _ => by omega
  | N + 1, h, hm => by
    rw [cnt_succ, cnt_succ]
    rcases (by omega : m = N ∨ m < N) with rfl | h2
    · have e : cnt (outB left m) m = cnt left m := by
        unfold cnt
        rw [selB_congr (fun k hk => show outB left m k = left k from by unfold outB; rw [if_neg (by omega)])]
      have e2 : outB left m m = false := by unfold outB; rw [if_pos rfl]
      rw [e, e2, hm]
      simp
    · have ih := cnt_out left m N h2 hm
      have e : outB left m N = left N := by unfold outB; rw [if_neg (by omega)]
      rw [e]
      omega
theorem cnt_le (f : Nat → Bool) (N : Nat) : cnt f N ≤ N := selB_len f N
theorem takeY_step (pick : (Nat → Bool) → Option Nat) (left : Nat → Bool) (N n : Nat) (h : pick left = some n) (hn : n < N) (hl : left n = true) : takeY pick (cnt left N) left = n :: takeY pick (cnt (outB left n) N) (outB left n) := by
  rw [← cnt_out left n N hn hl, takeY, h]
theorem takeY_end (pick : (Nat → Bool) → Option Nat) (left : Nat → Bool) (c : Nat) (h : pick left = none) : takeY pick c left = [] := by
  cases c with
  | zero => rfl
  | succ c => rw [takeY, h]
theorem take_mem (pick : (Nat → Bool) → Option Nat) (N : Nat) (h : ∀ left n, pick left = some n → n < N ∧ left n = true) : ∀ c left, (takeY pick c left).length ≤ c
  | 0, _ => Nat.le_refl _
  | c + 1, left => by
    rw [takeY]
    cases pick left with
    | none => simp
    | some n => simp only [List.length_cons]; have := take_mem pick N h c (outB left n); omega

/-- Rows of whatever numbers. -/
def OwnZ (w0 w : World) (v : Value) (l : List Int) : Prop := w.ownsRow w0.heap.size 3 1 v l.length (zC l) ∧ Fr (fun _ => False) w0 w
theorem OwnZ.nil {w0 w : World} (f : Fr (fun _ => False) w0 w) : OwnZ w0 w (.slice none 0 0) [] := ⟨World.ownsRow_nil w w0.heap.size 3 1, f⟩
theorem OwnZ.fr {w0 w w' : World} {v : Value} {l : List Int} (h : OwnZ w0 w v l) (f : Fr (fun _ => False) w w') : OwnZ w0 w' v l := ⟨own_fr h.1 f (fun _ _ e => e), h.2.trans f (fun _ _ e => e)⟩
theorem OwnZ.grow {w0 w w' : World} {v v' : Value} {l : List Int} {x : Int} (h : OwnZ w0 w v l) (o : w'.ownsRow w0.heap.size 3 1 v' (l.length + 1) (zC l ++ zC [x])) (g : w.grownBy w' v.ownBlock) : OwnZ w0 w' v' (l ++ [x]) := by
  refine ⟨?_, fr_append h.1 h.2 g⟩
  rw [List.length_append, zC_append]
  exact o
theorem OwnZ.shape {w0 w : World} {v : Value} {l : List Int} (h : OwnZ w0 w v l) : ∃ A c, v = .slice A l.length c ∧ Lies w A (zC l) ∧ ∀ ad, A = some ad → w0.heap.size ≤ ad.block := by
  rcases own_shape h.1 with ⟨rfl, h0, h1⟩ | ⟨g, cap, hv, hn, hc, hb⟩
  · rw [h0]
    exact ⟨none, 0, rfl, .inl h1, fun ad e => by cases e⟩
  · have := Lies.of_own (by rw [← hv]; exact h.1)
    exact ⟨_, cap, hv, this, fun ad e => by injection e with e; rw [← e]; exact hb⟩
def timeL (G : List Nd) : List Int := G.map (·.t)
theorem time_succ (G : List Nd) (k : Nat) (h : k < G.length) : (G.take (k + 1)).map (·.t) = (G.take k).map (·.t) ++ [G[k].t] := by
  rw [List.take_add_one, List.getElem?_eq_getElem h, List.map_append]; rfl

set_option maxHeartbeats 1600000 in
set_option maxRecDepth 100000 in
theorem QoTimes_any (A : Option Addr) (c : Nat) (G : List Nd) (hlen : G.length ≤ 1000) (w : World) (hG : GAt w A G) :
    Calls Try.prog 14 #[.slice A G.length c] w fun e w' => ∃ v, e = .returned v ∧ OwnZ w w' v (timeL G) := by
  obtain ⟨i0, hii, hz0, hz1, hz2⟩ := info_parts info_int
  have HG := Lib.hid (fun w' (f : Fr (fun _ => False) w w') n hn => hG.node f n hn)
  have HTs := Lib.hid (time_succ G)
  have HTe : Hid ((G.take G.length).map (·.t) = timeL G) := Lib.hid (by rw [List.take_length]; rfl)
  have HTl : Hid (∀ k, k ≤ G.length → ((G.take k).map (·.t)).length = k) := Lib.hid (fun k hk => by rw [List.length_map, List.length_take]; omega)
  obtain ⟨N, hN⟩ : ∃ N, G.length = N := ⟨_, rfl⟩
  have HN := Lib.hid hN
  rw [hN] at hlen HTe HTl ⊢
  clear hG hN
  go_enter Try.func14, Try.ntmps14
  go_wp2
  go_loopg [3, 4] N (fun kx s3 s4 wr => ∃ (k : Nat) (v : Value), s4 = .int .i64 k ∧ v = s3 ∧ k ≤ N ∧ N - k ≤ kx ∧ Hid (OwnZ w wr v ((G.take k).map (·.t))))
  case atStart => exact ⟨0, .slice none 0 0, rfl, rfl, by omega, by omega, Lib.hid (OwnZ.nil (Fr.refl _ _))⟩
  case round =>
    obtain ⟨k, v, rfl, rfl, hk, hkx, HO⟩ := hrel
    obtain ⟨wo, rfl⟩ : ∃ wo, wo = wr := ⟨wr, rfl⟩
    have wk := wrap_nat1 k (by omega)
    by_cases hlt : k < N
    · have hltz : (k : Int) < N := by omega
      have hkG : k < G.length := by rw [HN.out]; exact hlt
      obtain ⟨b, o, hBk, ca, cb, _, _⟩ := HG.out wo HO.out.2 k hkG
      subst hBk
      have HT1 := Lib.hid (HTs.out k hkG)
      obtain ⟨t, ht⟩ : ∃ t, G[k].t = t := ⟨_, rfl⟩
      rw [ht] at cb HT1
      have cb2 : wo.cell? ⟨b, o + k * 2 + 1, none⟩ = some (.int .i64 t) := by rw [Nat.add_assoc]; exact cb
      have HL1 := Lib.hid (HTl.out k hk)
      obtain ⟨l, hl⟩ : ∃ l, (G.take k).map (·.t) = l := ⟨_, rfl⟩
      rw [hl] at HT1 HL1 HO
      obtain ⟨w1, hw1⟩ : ∃ w1, wo.alloc (.cells #[.int .i64 t] 3) = w1 := ⟨_, rfl⟩
      have HF1 := Lib.hid (show Fr (fun _ => False) wo w1 from by subst hw1; exact (Fr.refl (fun _ => False) wo).alloc _)
      have HSrc := Lib.hid (show Src Try.prog 1 23 (.slice (some ⟨wo.heap.size, 0, none⟩) 1 1) 1 (zC [t]) w1 from by subst hw1; exact src_one Try.underlying23 wo _ rfl)
      have HO1 := Lib.hid (HO.out.fr HF1.out)
      have HBase : Hid (w.heap.size ≤ w1.heap.size) := Lib.hid HO1.out.2.size
      clear ht hl
      go_wp2_with (at_builtin; refine wpList_append_row _ rfl (.tmp 11) (.tmp 17) 23 23 rfl w.heap.size 3 i0 (.int .i64 0) 1 8 Try.underlying23 hii hz0 hz1 hz2 rfl v l.length (zC l) rfl HO1.out.1 (.slice (some ⟨wo.heap.size, 0, none⟩) 1 1) 1 (zC [t]) rfl HSrc.out (by have := HL1.out; unfold maxLen; omega) (by have := HL1.out; omega) HBase.out ?_
                   intro v' w4 o1 g1 at1
                   have HO4 := Lib.hid (HO1.out.grow o1 g1)
                   clear o1 g1 at1)
      go_roundg (N - (k + 1))
      case measure => omega
      case rel => exact ⟨k + 1, v', by go_num, rfl, by omega, Nat.le_refl _, Lib.hid (by rw [HT1.out]; exact HO4.out)⟩
    · obtain rfl : k = N := by omega
      go_wp2
      go_ret
      exact ⟨v, rfl, by rw [← HTe.out]; exact HO.out⟩

set_option maxHeartbeats 1600000 in
set_option maxRecDepth 100000 in
theorem QoIn_any (A : Option Addr) (c N : Nat) (B : Option Addr) (cB : Nat) (l : List Nat) (hN : N ≤ 1000) (hn : l.length ≤ 100000) (hl : ∀ x ∈ l, x < N) (w : World) (h : Lies w B (nC l)) :
    Calls Try.prog 17 #[.slice A N c, .slice B l.length cB] w fun e w' => ∃ g, e = .returned (.slice (some ⟨g, 0, none⟩) N N) ∧ OwB w w' g N (fun k => decide (k ∈ l)) := by
  have hmk := make_bools N (by omega) w
  have HLs := Lib.hid (fun w' (f : Fr (fun _ => False) w w') k hk => lies_nat h f k hk)
  have HX : Hid (∀ k, k < l.length → l.getD k 0 < N) := Lib.hid (fun k hk => hl _ (by rw [List.getD_eq_getElem?_getD, List.getElem?_eq_getElem hk]; exact List.getElem_mem hk))
  have HTl := Lib.hid (List.take_length (l := l))
  have HTk := Lib.hid (nat_snoc l)
  obtain ⟨L, hL⟩ : ∃ L, l.length = L := ⟨_, rfl⟩
  rw [hL] at hn HLs HX HTl HTk ⊢
  obtain ⟨w1, hw1⟩ : ∃ w1, w.alloc (.cells (rowC (boolC fun _ => false) N) 4) = w1 := ⟨_, rfl⟩
  rw [hw1] at hmk
  obtain ⟨g, hg⟩ : ∃ g, w.heap.size = g := ⟨_, rfl⟩
  have HO0 := Lib.hid (show OwB w w1 g N (fun _ => false) from ⟨by subst hw1; subst hg; exact Whole.new w 4 _, by subst hw1; exact (Fr.refl (fun _ => False) w).alloc _, by omega⟩)
  rw [hg] at hmk
  clear h hl hL hw1 hg
  go_enter Try.func17, Try.ntmps17
  go_upto_region 2 with fail
  clear hmk
  go_wp2
  go_loopg [6] L (fun kx s6 wr => ∃ k : Nat, s6 = .int .i64 k ∧ k ≤ L ∧ L - k ≤ kx ∧ Hid (OwB w wr g N (fun j => decide (j ∈ l.take k))))
  case atStart => exact ⟨0, rfl, by omega, by omega, Lib.hid (by simpa using HO0.out)⟩
  case round =>
    obtain ⟨k, rfl, hk, hkx, HO⟩ := hrel
    obtain ⟨wo, rfl⟩ : ∃ wo, wo = wr := ⟨wr, rfl⟩
    have wk := wrap_nat1 k (by omega)
    by_cases hlt : k < L
    · have hltz : (k : Int) < L := by omega
      obtain ⟨bb, o, hBk, cx⟩ := HLs.out wo HO.out.old k hlt
      subst hBk
      have hx := HX.out k hlt
      have HTk1 := Lib.hid (HTk.out k hlt)
      obtain ⟨x, hxd⟩ : ∃ x, l.getD k 0 = x := ⟨_, rfl⟩
      rw [hxd] at cx hx HTk1
      have cm := HO.out.row.rcell x hx
      have fm := HO.out.row.frozen x
      simp only [boolC] at cm
      obtain ⟨b, hb⟩ : ∃ b, decide (x ∈ l.take k) = b := ⟨_, rfl⟩
      rw [hb] at cm
      have hx0 : (0 : Int) ≤ (x : Int) := by omega
      have hxz : (x : Int) < (N : Int) := by omega
      have HS := Lib.hid (HO.out.set x hx true (fun j => decide (j ∈ l.take (k + 1))) (fun j hj => by
        rw [HTk1.out]
        by_cases e : j = x
        · simp [e]
        · simp [e]))
      clear hxd hb
      go_wp2
      go_roundg (L - (k + 1))
      case measure => omega
      case rel => exact ⟨k + 1, by go_num, by omega, Nat.le_refl _, HS⟩
    · obtain rfl : k = L := by omega
      have HO2 := Lib.hid (show OwB w wo g N (fun j => decide (j ∈ l)) from by have := HO.out; rwa [HTl.out] at this)
      go_wp2
      go_ret
      exact ⟨g, rfl, HO2.out⟩
end Go.Proofs.Ytpaigmmpihcdaaa

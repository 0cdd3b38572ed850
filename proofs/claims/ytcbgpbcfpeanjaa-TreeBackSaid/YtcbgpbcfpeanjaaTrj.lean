/- What is proved: entries as a source of an append; a list put in order by the program, by keys or by names; whether a number is a mode. Conditions: the list's cells are there. -/
import Derived.Test.YtcbgpbcfpeanjaaTri
import Derived.BigQuiet
namespace Go.Proofs.Ytcbgpbcfpeanjaa
open Go.RowKit Go.Sort Go.Shelf
set_option linter.unusedVariables false

theorem wrap_nat (k : Nat) (h : k ≤ 100000) : IntKind.i64.wrap (k : Int) = k := by rw [IntKind.wrap_i64]; omega
theorem wrap_nat1 (k : Nat) (h : k ≤ 100000) : IntKind.i64.wrap ((k : Int) + 1) = (k : Int) + 1 := by rw [IntKind.wrap_i64]; omega
theorem toNat_nat1 (k : Nat) : ((k : Int) + 1).toNat = k + 1 := by omega
theorem nonneg_nat1 (k : Nat) : (0 : Int) ≤ (k : Int) + 1 := by omega
theorem Lies.someE {w : World} {A : Option Addr} {es : List Ent} (h : Lies w A (flatE es)) (hn : 0 < es.length) : ∃ b o, A = some ⟨b, o, none⟩ := by
  rcases h with h | ⟨b, o, rfl, _⟩
  · have := flatE_len es
    rw [h] at this
    simp at this
    omega
  · exact ⟨b, o, rfl⟩
theorem Lies.src34 {w : World} {A : Option Addr} {es : List Ent} (h : Lies w A (flatE es)) {n : Nat} (hn : es.length = n) (c : Nat) : Src Try.prog 34 22 (.slice A n c) n (flatE es) w := by
  subst hn
  rcases A with _ | ad
  · have h0 : es = [] := by
      rcases h with h | ⟨b, o, h, _⟩
      · have := flatE_len es
        rw [h] at this
        simp at this
        exact List.eq_nil_of_length_eq_zero (by omega)
      · cases h
    subst h0
    exact Src.ofNil w Try.underlying22 c
  · refine Src.ofSlice w Try.underlying22 ad es.length c (flatE es) (flatE_len es) (fun j u hu => ?_) (flatE_one es)
    rcases h with h | ⟨b, o, h, hc⟩
    · rw [h] at hu; simp at hu
    · injection h with h
      subst h
      rw [add_off]
      exact hc j u hu
theorem zeroE_cells : (Value.agg (entV default).toArray).cells.size = 34 := by kernel_rfl
theorem OwnE.nil {w0 w : World} (f : Fr (fun _ => False) w0 w) : OwnE w0 w (.slice none 0 0) [] := ⟨World.ownsRow_nil w w0.heap.size 45 34, f⟩
theorem OwnE.grow {w0 w w' : World} {v v' : Value} {es ms ks : List Ent} (h : OwnE w0 w v es) (hk : ks = es ++ ms) {m n : Nat} (hn : n = es.length) (hm : m = ms.length) (o : w'.ownsRow w0.heap.size 45 34 v' (n + m) (flatE es ++ flatE ms)) (g : w.grownBy w' v.ownBlock) : OwnE w0 w' v' ks := by
  subst hk
  refine ⟨?_, fr_append h.1 h.2 g⟩
  rw [List.length_append, flatE_append, ← hn, ← hm]
  exact o

/-! Nothing to sort. -/
set_option maxHeartbeats 1000000 in
theorem Ginsertion_none (A : Option Addr) (c g : Nat) (w : World) : Calls Try.prog 50 #[.slice A 0 c, .int .i64 0, .int .i64 0, .func (.func g) #[] #[]] w fun e w' => e = .returned (.tuple #[]) ∧ w = w' := by
  go_enter Try.func50, Try.ntmps50
  go_wp2
  refine wp_loop_rounds 1 ?_
  rw [rounds_succ]
  go_wp2
  go_end0
  exact ⟨rfl, rfl⟩
set_option maxHeartbeats 1000000 in
theorem Gstable_none (A : Option Addr) (c g : Nat) (w : World) : Calls Try.prog 44 #[.slice A 0 c, .int .i64 0, .func (.func g) #[] #[]] w fun e w' => e = .returned (.tuple #[]) ∧ w = w' := by
  have hc := Lib.hid (Ginsertion_none A c g w)
  go_enter Try.func44, Try.ntmps44
  go_wp2
  refine wp_loop_rounds 1 ?_
  rw [rounds_succ]
  go_wp2_with (go_at_call 50; refine hc.out.mono ?_; rintro e w' ⟨rfl, rfl⟩)
  refine wp_loop_rounds 1 ?_
  rw [rounds_succ]
  go_wp2
  go_end0
  exact ⟨rfl, rfl⟩
set_option maxHeartbeats 1000000 in
theorem GSortStable_none (A : Option Addr) (c g : Nat) (w : World) : Calls Try.prog 33 #[.slice A 0 c, .func (.func g) #[] #[]] w fun e w' => e = .returned (.tuple #[]) ∧ w = w' := by
  have hc := Lib.hid (Gstable_none A c g w)
  go_enter Try.func33, Try.ntmps33
  go_wp2_with (go_at_call 44; refine hc.out.mono ?_; rintro e w' ⟨rfl, rfl⟩)
  go_end0
  exact ⟨rfl, rfl⟩

set_option maxHeartbeats 3200000 in
/-- sortedBy, at a function that compares entries. -/
theorem TsortedBy_any (f : Nat) (cf : Ent → Ent → Int) (A : Option Addr) (cap : Nat) (es : List Ent) (hn : es.length ≤ 100000) (w : World) (h : Lies w A (flatE es))
    (eg : ∀ args w, (callFunc f args).run Try.prog w = .ok (.enter f args) w) (hO : SWO (ltOf (cfN cf))) (hcmp : ∀ g size w, CmpLays Try.prog f #[] encN 34 (cfN cf) g 0 size w) :
    Calls Try.prog 23 #[.slice A es.length cap, .func (.func f) #[] #[]] w fun e w' => ∃ v, e = .returned v ∧ OwnE w w' v (srt (ltOf cf) es) := by
  obtain ⟨i0, hi, hz0, hz1, hz2⟩ := info_parts info_ent
  have hz3 := zeroE_cells
  obtain ⟨Z, hZ⟩ : ∃ Z, (entV default).toArray = Z := ⟨_, rfl⟩
  rw [hZ] at hz0 hz3
  have HL := Lib.hid h
  obtain ⟨L, hL⟩ : ∃ L, es.length = L := ⟨_, rfl⟩
  have HLn := Lib.hid hL
  have HS := Lib.hid (fun w1 g c ho => SortStable_own w w1 g c es f cf (by omega) ho eg hO (hcmp g))
  rw [hL] at hn ⊢
  clear h hL hZ eg hO hcmp
  go_enter Try.func23, Try.ntmps23
  go_wp2_with (at_builtin; refine wpList_append_row _ rfl (.const (.slice none 0 0)) (.tmp 6) 22 22 rfl w.heap.size 45 i0 (.agg Z) 34 56 Try.underlying22 hi hz0 hz1 hz2 hz3 (.slice none 0 0) 0 [] rfl (World.ownsRow_nil w w.heap.size 45 34) (.slice A L cap) L (flatE es) rfl (Lies.src34 HL.out HLn.out cap) (by unfold maxLen; omega) (by omega) (Nat.le_refl _) ?_
               intro v1 w1 o1 g1 at1)
  have n1 : OwnE w w1 v1 es := OwnE.grow (OwnE.nil (Fr.refl (fun _ => False) w)) (ks := es) (by simp) rfl HLn.out.symm o1 g1
  clear o1 g1 at1
  have n1o := n1.1
  rw [HLn.out] at n1o
  rcases own_shape n1o with ⟨hv, hL0, _⟩ | ⟨g, c1, hv, hnc, hcm, _⟩
  · subst hv
    subst hL0
    have HR := Lib.hid (show OwnE w w1 (.slice none 0 0) (srt (ltOf cf) es) from by rw [List.eq_nil_of_length_eq_zero HLn.out] at n1 ⊢; exact n1)
    clear n1 n1o HS
    go_wp2_with (go_at_call 33; refine (GSortStable_none none 0 f _).mono ?_; rintro e w3 ⟨rfl, rfl⟩)
    go_ret
    exact ⟨_, rfl, HR.out⟩
  · subst hv
    have hso := HS.out w1 g c1 (by rw [HLn.out]; exact n1)
    rw [HLn.out] at hso
    have HSO := Lib.hid hso
    clear n1 n1o hso HS
    go_wp2_with (go_at_call 33; refine HSO.out.mono ?_; rintro e w3 ⟨rfl, hown⟩)
    go_ret
    exact ⟨_, rfl, hown⟩
set_option maxHeartbeats 1000000 in
theorem TSorted_any (A : Option Addr) (cap : Nat) (es : List Ent) (hn : es.length ≤ 100000) (w : World) (h : Lies w A (flatE es)) :
    Calls Try.prog 9 #[.slice A es.length cap] w fun e w' => ∃ v, e = .returned v ∧ OwnE w w' v (srt (ltOf keyCmp) es) := by
  have hc := Lib.hid (TsortedBy_any 24 keyCmp A cap es hn w h enters_keys swo_keys (fun g size w => cmpLays_keys g 0 size w))
  obtain ⟨L, hL⟩ : ∃ L, es.length = L := ⟨_, rfl⟩
  rw [hL] at hc ⊢
  clear h hL
  go_enter Try.func9, Try.ntmps9
  go_wp2_with (go_at_call 23; refine hc.out.mono ?_; rintro e w' ⟨v, rfl, ho⟩)
  go_ret
  exact ⟨_, rfl, ho⟩
set_option maxHeartbeats 1000000 in
theorem TbyName_any (A : Option Addr) (cap : Nat) (es : List Ent) (hn : es.length ≤ 100000) (w : World) (h : Lies w A (flatE es)) :
    Calls Try.prog 38 #[.slice A es.length cap] w fun e w' => ∃ v, e = .returned v ∧ OwnE w w' v (srt (ltOf nameCmp) es) := by
  have hc := Lib.hid (TsortedBy_any 47 nameCmp A cap es hn w h enters_names swo_names (fun g size w => cmpLays_names g 0 size w))
  obtain ⟨L, hL⟩ : ∃ L, es.length = L := ⟨_, rfl⟩
  rw [hL] at hc ⊢
  clear h hL
  go_enter Try.func38, Try.ntmps38
  go_wp2_with (go_at_call 23; refine hc.out.mono ?_; rintro e w' ⟨v, rfl, ho⟩)
  go_ret
  exact ⟨_, rfl, ho⟩

/-- Whether a number is a mode. -/
def modeB (m : Int) : Bool := decide (1 ≤ m) && decide (m ≤ 3)
set_option maxHeartbeats 1000000 in
theorem TisMode_any (m : Int) (w : World) : Calls Try.prog 25 #[.int .i64 m] w fun e w' => e = .returned (.bool (modeB m)) ∧ w = w' := by
  have HM : Hid (modeB m = (decide (m = 1) || (decide (m = 2) || decide (m = 3)))) := Lib.hid (by
    rw [modeB, Bool.eq_iff_iff]; simp; omega)
  obtain ⟨r, hr⟩ : ∃ r, modeB m = r := ⟨_, rfl⟩
  rw [hr] at HM ⊢
  clear hr
  go_enter Try.func25, Try.ntmps25
  by_cases h1 : m = 1
  · go_wp2
    go_ret
    exact ⟨by rw [HM.out, h1]; rfl, rfl⟩
  · by_cases h2 : m = 2
    · go_wp2
      go_ret
      exact ⟨by rw [HM.out, h2]; rfl, rfl⟩
    · by_cases h3 : m = 3
      · go_wp2
        go_ret
        exact ⟨by rw [HM.out, h3]; rfl, rfl⟩
      · go_wp2
        go_ret
        exact ⟨by rw [HM.out, decide_eq_false h1, decide_eq_false h2, decide_eq_false h3]; simp [h1, h2, h3], rfl⟩
end Go.Proofs.Ytcbgpbcfpeanjaa

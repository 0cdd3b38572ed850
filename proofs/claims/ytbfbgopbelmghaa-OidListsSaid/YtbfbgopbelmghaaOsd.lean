/- What is proved: a list put in order by the program, each id once: as the document's. Conditions: the list's cells are there. -/
import Derived.Test.YtbfbgopbelmghaaOsc
import Derived.Test.YtbfbgopbelmghaaOsa
import Derived.Shelf.SlSortCmp.NoneTotal
namespace Go.Proofs.Ytbfbgopbelmghaa
open Go.RowKit
set_option linter.unusedVariables false

theorem Sort_none (A : Option Addr) (c : Nat) (w : World) : Calls Try.prog 39 #[.slice A 0 c, .func (.func 20) #[] #[]] w fun e w' => e = .returned (.tuple #[]) ∧ w' = w :=
  AnyF.slices_SortFunc_none (P := Try.prog) (ρ := sortIDs_ren) sortIDs A c (.func (.func 20) #[] #[]) w
theorem srt_nil_of (ns : List Nat) (h : ns.length = 0) : srtN ns = ns := by
  rw [List.eq_nil_of_length_eq_zero h]; rfl

set_option maxHeartbeats 3200000 in
theorem OSorted_any (A : Option Addr) (cap : Nat) (ns : List Nat) (hb : ∀ n ∈ ns, n < big) (hn : ns.length ≤ 1000) (w : World) (h : Lies w A (flatI ns)) :
    Calls Try.prog 22 #[.slice A ns.length cap] w fun e w' => ∃ v, e = .returned v ∧ OwnI w w' v (srtN ns) := by
  obtain ⟨i0, hi, hz0, hz1, hz2⟩ := info_parts info_id
  have hz3 := zero32_cells
  obtain ⟨Z32, hZ32⟩ : ∃ Z, zero32 = Z := ⟨_, rfl⟩
  rw [hZ32] at hz0 hz3
  have HL := Lib.hid h
  have HB := Lib.hid hb
  obtain ⟨L, hL⟩ : ∃ L, ns.length = L := ⟨_, rfl⟩
  have HLn := Lib.hid hL
  rw [hL] at hn ⊢
  clear h hb hL hZ32
  go_enter Try.func22, Try.ntmps22
  go_wp2_with (at_builtin; refine wpList_append_row _ rfl (.const (.slice none 0 0)) (.tmp 4) 44 44 rfl w.heap.size 23 i0 (.agg Z32) 32 32 Try.underlying44 hi hz0 hz1 hz2 hz3 (.slice none 0 0) 0 [] rfl (World.ownsRow_nil w w.heap.size 23 32) (.slice A L cap) L (flatI ns) rfl (Lies.src32 HL.out HLn.out cap) (by unfold maxLen; omega) (by omega) (Nat.le_refl _) ?_
               intro v1 w1 o1 g1 at1)
  have n1 : OwnI w w1 v1 ns := OwnI.grow (OwnI.nil (Fr.refl (fun _ => False) w)) (ks := ns) (by simp) rfl HLn.out.symm o1 g1
  clear o1 g1 at1
  have n1o := n1.1
  rw [HLn.out] at n1o
  rcases own_shape n1o with ⟨hv, hL0, _⟩ | ⟨g, c1, hv, hnc, hcm, _⟩
  · subst hv
    subst hL0
    have HR := Lib.hid (show OwnI w w1 (.slice none 0 0) (srtN ns) from by rw [srt_nil_of ns HLn.out]; exact n1)
    clear n1 n1o
    refine (Sort_none none 0 w1).mono ?_
    rintro e w2 ⟨rfl, rfl⟩
    go_wp2_with (go_at_call 40; refine (GCompact_short _ none 0 0 rfl (by omega) _).mono ?_; rintro e w3 ⟨rfl, rfl⟩)
    go_ret
    exact ⟨_, rfl, HR.out⟩
  · subst hv
    have HN1 := Lib.hid n1
    have hso := Sort_own w w1 g c1 ns HB.out (by rw [HLn.out]; exact hn) (by rw [HLn.out]; exact n1)
    rw [HLn.out] at hso
    clear n1 n1o
    refine hso.mono ?_
    rintro e w2 ⟨rfl, ms, hperm, hsle, hown⟩
    have hml : ms.length = L := by rw [hperm.length_eq, HLn.out]
    have hmb : ∀ n ∈ ms, n < big := fun n hn => HB.out n (hperm.mem_iff.1 hn)
    have HEQ := Lib.hid (dd_srt ns ms hperm hsle)
    rw [hml] at hown
    by_cases h2 : 2 ≤ L
    · have HC := Lib.hid (GCompact_any w w2 g c1 L ms hmb hsle h2 hn hown)
      clear hown hperm hsle hmb hml hso
      go_wp2_with (go_at_call 40; refine HC.out.mono ?_; rintro e w3 ⟨v3, rfl, h3⟩)
      go_ret
      exact ⟨_, rfl, by rw [← HEQ.out]; exact h3⟩
    · have HR := Lib.hid (show OwnI w w2 (.slice (some ⟨g, 0, none⟩) L c1) (srtN ns) from by rw [← HEQ.out, dd_short ms (by omega)]; exact hown)
      clear hown hperm hsle hmb hml hso
      go_wp2_with (go_at_call 40; refine (GCompact_short _ (some ⟨g, 0, none⟩) L c1 rfl (by omega) _).mono ?_; rintro e w3 ⟨rfl, rfl⟩)
      go_ret
      exact ⟨_, rfl, HR.out⟩
end Go.Proofs.Ytbfbgopbelmghaa

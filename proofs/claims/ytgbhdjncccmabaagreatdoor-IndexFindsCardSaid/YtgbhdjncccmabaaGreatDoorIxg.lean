/- What is proved: Make by the program: the index of places, or the error. Conditions: at most 600 places, whose cells are there; the table of the sums lies as its text lays it. -/
import Derived.Test.YtgbhdjncccmabaaGreatDoorIxe
import Derived.Test.YtgbhdjncccmabaaGreatDoorIxf
namespace Go.Proofs.YtgbhdjncccmabaaGreatDoor
open Go.RowKit
set_option linter.unusedVariables false

theorem Lies.srcP {w : World} {A : Option Addr} {ps : List Pl} (h : Lies w A (flatP ps)) {n : Nat} (hn : ps.length = n) (c : Nat) : Src Tryz.prog 34 22 (.slice A n c) n (flatP ps) w := by
  rcases A with _ | ad
  · have h0 : flatP ps = [] := by
      rcases h with h | ⟨b, o, h, _⟩
      · exact h
      · cases h
    have : ps.length = 0 := by have := flatP_len ps; rw [h0] at this; simp at this; omega
    have hp : ps = [] := List.eq_nil_of_length_eq_zero this
    subst hp
    subst hn
    exact Src.ofNil w Tryz.underlying22 c
  · refine Src.ofSlice w Tryz.underlying22 ad n c (flatP ps) (by rw [flatP_len, hn]) (fun j u hu => ?_) (flatP_one ps)
    rcases h with h | ⟨b, o, h, hc⟩
    · rw [h] at hu; simp at hu
    · injection h with h
      subst h
      rw [add_off]
      exact hc j u hu
theorem OwnP.lies {w0 w : World} {A : Option Addr} {n c : Nat} {ps : List Pl} (h : OwnP w0 w (.slice A n c) ps) : Lies w A (flatP ps) := by
  obtain ⟨B, d, hv, _, _, hl⟩ := h.slice
  injection hv with h1 h2 h3
  rw [h1]
  exact hl
theorem infoPls : (Tryz.prog.info? 43).map (fun i => (i.zero, i.size, i.bytes)) = some (some (.agg zeroPl), 34, 48) := by kernel_rfl
theorem own_empty (w : World) (e : TypeId) (s : Nat) : (w.alloc (.cells #[] e)).ownsRow w.heap.size e s (.slice (some ⟨w.heap.size, 0, none⟩) 0 0) 0 [] :=
  ⟨by simp, .inr ⟨w.heap.size, 0, #[], rfl, Nat.le_refl _, heap_alloc_new w _, Nat.le_refl _, Nat.zero_le _, by simp, by simp⟩⟩

theorem nil_eq (n c : Nat) (w : World) : (binOp .eql 22 (.slice none n c) (.slice none 0 0)).run Tryz.prog w = .ok (.bool true) w := by kernel_rfl
theorem some_eq (a : Addr) (n c : Nat) (w : World) : (binOp .eql 22 (.slice (some a) n c) (.slice none 0 0)).run Tryz.prog w = .ok (.bool false) w := by kernel_rfl

set_option maxHeartbeats 1600000 in
set_option maxRecDepth 100000 in
theorem ICloneP_any (A : Option Addr) (cap : Nat) (ps : List Pl) (hn : ps.length ≤ 1000) (w : World) (h : Lies w A (flatP ps)) :
    Calls Tryz.prog 40 #[.slice A ps.length cap] w fun e w' => ∃ v, e = .returned v ∧ OwnP w w' v ps := by
  obtain ⟨i0, hi, hz0, hz1, hz2⟩ := info_parts infoPls
  rcases A with _ | ad
  · have h0 : ps.length = 0 := by
      rcases h with h | ⟨b, o, h, _⟩
      · have := flatP_len ps; rw [h] at this; simp at this; omega
      · cases h
    have hp : ps = [] := List.eq_nil_of_length_eq_zero h0
    subst hp
    have e1 := fun w => nil_eq 0 cap w
    go_enter Tryz.func40, Tryz.ntmps40
    go_wp2
    go_ret
    exact ⟨_, rfl, World.ownsRow_nil _ _ _ _, Fr.refl _ _⟩
  · have HL := Lib.hid h
    obtain ⟨L, hL⟩ : ∃ L, ps.length = L := ⟨_, rfl⟩
    have HLn := Lib.hid hL
    rw [hL] at hn ⊢
    have e1 := fun w => some_eq ad L cap w
    clear h hL
    go_enter Tryz.func40, Tryz.ntmps40
    go_wp2_with (at_builtin; refine wpList_append_row _ rfl (.tmp 5) (.tmp 6) 22 22 rfl w.heap.size 43 i0 (.agg zeroPl) 34 48 Tryz.underlying22 hi hz0 hz1 hz2 rfl (.slice (some ⟨w.heap.size, 0, none⟩) 0 0) 0 [] rfl (own_empty w 43 34) (.slice (some ad) L cap) L (flatP ps) rfl ((HL.out.fr ((Fr.refl (fun _ => False) w).alloc _) (fun _ _ e => e)).srcP HLn.out cap) (by unfold maxLen; omega) (by omega) (by simp) ?_; intro v w1 ho hg hv; have HO := Lib.hid ho; have HF := Lib.hid (show Fr (fun _ => False) w w1 from ((Fr.refl (fun _ => False) w).alloc (.cells #[] 43)).grown hg (fun k e hk => by simp [Value.ownBlock] at e; omega)); clear ho hg hv)
    go_ret
    refine ⟨_, rfl, ?_, HF.out⟩
    have := HO.out
    simpa [HLn.out] using this
end Go.Proofs.YtgbhdjncccmabaaGreatDoor

/- What is proved: what the walks of this seat need of layers below, merged out of the texts Deq (of each just what is needed). Conditions: each theorem names its own. -/
import Derived.Deep.CutBlock
import Derived.Deep.RegionWith
import Derived.Test.YtgbhdjncccmabaaGreatDoorDga
import Derived.Test.YtgbhdjncccmabaaGreatDoorIe
/- What is proved: what the document's Join makes of parts; its Put. Conditions: the parts' and the ops' cells are there. -/
namespace Go.Proofs.YtgbhdjncccmabaaGreatDoor
open Go.RowKit
set_option linter.unusedVariables false
set_option maxHeartbeats 3200000 in
set_option maxRecDepth 100000 in
theorem refJoin_any (A : Option Addr) (c : Nat) (ps : List (List UInt8)) (hl : ps.length ≤ 1000) (hf : ps.flatten.length ≤ 100000000) (w : World) (h : Parts w A ps) :
    Calls Tryz.prog 19 #[.slice A ps.length c] w (OwnPost w ps.flatten) := by
  obtain ⟨L, hL⟩ : ∃ L, ps.length = L := ⟨_, rfl⟩
  have HL := Lib.hid hL
  rw [hL] at hl ⊢
  obtain ⟨i0, hi, hz0, hz1, hz2⟩ := info_parts info_u8
  have HP := Lib.hid h
  clear hL h
  go_enter Tryz.func19, Tryz.ntmps19
  go_wp2_with fail
  go_loopw [3, 4] (fun u i wr => ∃ (k : Nat) (v : Value), u = v ∧ k ≤ L ∧ i = .int .i64 k ∧ Hid (wr.ownsRow w.heap.size 5 1 v (ps.take k).flatten.length (bytesV (ps.take k).flatten)) ∧ Hid (Fr (fun _ => False) w wr)) (fun _ i _ => L - (intOf i).toNat)
  case atStart => exact ⟨0, .slice none 0 0, rfl, by omega, rfl, Lib.hid (World.ownsRow_nil _ _ _ _), Lib.hid (Fr.refl _ _)⟩
  case round =>
    obtain ⟨k, v, rfl, hk, rfl, HO, HF⟩ := hrel
    obtain ⟨N, hN⟩ : ∃ N, (ps.take k).flatten.length = N := ⟨_, rfl⟩
    have HN := Lib.hid hN
    rw [hN] at HO
    clear hN
    obtain ⟨Av, cv, hv, -, -⟩ := own_slice HO.out
    subst hv
    have hk1 : (0 : Int) ≤ k := by omega
    by_cases hlt : k < L
    · have hk2 : (k : Int) < L := by omega
      obtain ⟨p, hp⟩ : ∃ p, ps[k]? = some p := ⟨ps[k]'(by rw [HL.out]; exact hlt), List.getElem?_eq_getElem (by rw [HL.out]; exact hlt)⟩
      have HT := Lib.hid (flatten_take_succ ps k p hp)
      have hle := flatten_take_le ps (k + 1)
      rw [HT.out, List.length_append] at hle
      rcases HP.out.fr HF.out with h0 | ⟨b, o, hA, hc⟩
      · have h9 := HL.out
        rw [h0] at h9
        simp at h9
        omega
      · subst hA
        obtain ⟨Ai, ci, c1, c2, c3⟩ := hc k p hp
        have hsrc := c3.src Tryz.underlying28 (bytesV_one p) ci
        rw [bytesV_length] at hsrc
        have HSr := Lib.hid hsrc
        obtain ⟨M, hM⟩ : ∃ M, p.length = M := ⟨_, rfl⟩
        rw [HN.out, hM] at hle
        rw [hM] at c1 HSr
        have HNM := Lib.hid (show (ps.take (k + 1)).flatten.length = N + M by rw [HT.out, List.length_append, HN.out, hM])
        have HBs := Lib.hid HF.out.size
        clear hc c2 c3 hp hsrc hM
        go_wp2_with (at_builtin; refine wpList_append_row _ rfl (.tmp 11) (.tmp 15) 28 28 rfl w.heap.size 5 i0 (.int .u8 0) 1 1 Tryz.underlying28 hi hz0 hz1 hz2 rfl _ N _ rfl HO.out _ M _ rfl HSr.out (by unfold maxLen; omega) (by omega) HBs.out ?_
                     intro v6 w6 o6 g6 at6
                     have HO6 := Lib.hid o6
                     have HF6 := Lib.hid (show Fr (fun _ => False) w w6 from fr_append HO.out HF.out g6)
                     clear o6 g6 at6)
        go_roundw
        case rel => exact ⟨k + 1, v6, rfl, by omega, by go_num, Lib.hid (by rw [HNM.out, HT.out, bytesV_append]; exact HO6.out), HF6⟩
        case measure => simp [intOf]; omega
    · obtain rfl : k = L := by omega
      have htk : ps.take k = ps := List.take_of_length_le (by rw [HL.out]; exact Nat.le_refl _)
      have HOe := Lib.hid (show wr.ownsRow w.heap.size 5 1 (.slice Av N cv) ps.flatten.length (bytesV ps.flatten) from by have := HO.out; rw [← HN.out, htk] at this; rw [← HN.out, htk]; exact this)
      clear htk
      go_wp2_with fail
      go_ret
      exact ⟨_, rfl, HOe.out, HF.out.below (fun _ _ e => e)⟩
end Go.Proofs.YtgbhdjncccmabaaGreatDoor

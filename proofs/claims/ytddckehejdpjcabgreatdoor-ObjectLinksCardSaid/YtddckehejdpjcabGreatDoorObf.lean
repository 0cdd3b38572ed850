/- What is proved: what the walks of this seat need of layers below, merged out of the texts Obf (of each just what is needed). Conditions: each theorem names its own. -/
import Derived.Lib.SlBytesConst
import Derived.Test.YtddckehejdpjcabGreatDoorObe
/- What is proved: the walk of the law ObjectBytes, for every kind, body and word. Conditions: the library's table lies as its text lays it; the body's cells are there. -/
namespace Go.Proofs.YtddckehejdpjcabGreatDoor
open Go.RowKit Go.Sort Go.Shelf
set_option linter.unusedVariables false
theorem ex_dig2 : digS 2 = [50] := by
  rw [digS, if_neg (by decide), show (2 : Int).toNat = 2 from rfl, Lib.decDigits_one (by decide)]
  rfl
theorem ex_chk8 : chkO 1 [104, 105] = 0 := chkO_1 (by decide)
theorem ex_obj : objB 1 [104, 105] = [98, 108, 111, 98, 32, 50, 0, 104, 105] := by
  rw [objB, if_pos ex_chk8, headB]
  show kwordB 1 ++ [32] ++ digS 2 ++ [0] ++ [104, 105] = _
  rw [ex_dig2]
  rfl
set_option maxHeartbeats 3200000 in
set_option maxRecDepth 100000 in
theorem works8_any (w : World) (hT : Tab10 w) : Calls Tryz.prog 4 #[] w fun e w' => e = .returned (.bool true) ∧ Fr (fun _ => False) w w' := by
  have hcv0 := Lib.run_convert_bytes_const (P := Tryz.prog) w 22 5 #[.int .u8 104, .int .u8 105] 2 2 Tryz.underlying22 Tryz.underlying5
  have ho := ownF_new w w [104, 105] 2 #[.int .u8 104, .int .u8 105] (2, 3) (Fr.refl _ w) rfl (by decide) (by decide) (.inl (by decide)) (fun j u hu => by simpa [bytesV, byteV] using hu)
  rw [show (#[Value.int .u8 104, Value.int .u8 105] : Array Value).size = 2 from rfl, show 2 + 1 = 3 from rfl] at hcv0
  obtain ⟨w1, hw1⟩ : ∃ w1, w.alloc (.cells #[.int .u8 104, .int .u8 105] 5 (2, 3)) = w1 := ⟨_, rfl⟩
  rw [hw1] at hcv0 ho
  have hF := ho.fr2
  obtain ⟨_, _, hv, _, hL⟩ := ho.slice
  injection hv with hv1 hv2 hv3
  subst hv1
  have hp := ObBytes_any 1 (some ⟨w.heap.size, 0, none⟩) 2 [104, 105] (by decide) (by decide) w1 hL (hT.fr hF)
  rw [ex_chk8, ex_obj] at hp
  have HP := Lib.hid hp
  have HF := Lib.hid hF
  obtain ⟨P, hP⟩ : ∃ P, ([98, 108, 111, 98, 32, 50, 0, 104, 105] : List UInt8) = P := ⟨_, rfl⟩
  obtain ⟨S, hS⟩ : ∃ S, strB P = S := ⟨_, rfl⟩
  have hSc : ByteArray.mk #[98, 108, 111, 98, 32, 50, 0, 104, 105] = S := by rw [← hS, ← hP]; rfl
  have hle : P.length = 9 := by rw [← hP]; rfl
  rw [hP, hle] at HP
  have HCV := Lib.hid (fun (w2 : World) (A : Option Addr) (c : Nat) (h : Lies w2 A (bytesV P)) => run_convert_lies 22 9 5 Tryz.underlying22 Tryz.underlying5 Tryz.underlying9 h c)
  rw [hS, hle] at HCV
  clear hp hS hP hL hF hle ho hv2 hv3 hw1
  go_enter Tryz.func4, Tryz.ntmps4
  go_wp2_with (go_at_call 7; refine HP.out.mono ?_; rintro e w2 ⟨A2, c2, rfl, hc2, hl2, f2⟩; have e2 := HCV.out w2 A2 c2 hl2; have F2 := Lib.hid f2; clear hc2 hl2 f2)
  go_ret
  exact ⟨rfl, HF.out.trans F2.out (fun _ _ e => e)⟩
end Go.Proofs.YtddckehejdpjcabGreatDoor

/- What is proved: lines are laid behind bytes of the call's own, by the program. Conditions: the library's table lies as its text lays it. -/
import Derived.Test.YtppddpbacpeadaaDoorRvi
namespace Go.Proofs.YtppddpbacpeadaaDoor
open Go.RowKit Go.Sort Go.Shelf
set_option linter.unusedVariables false

/-! Bytes of the call's own. -/
theorem info_u8 : (Tryd.prog.info? 5).map (fun i => (i.zero, i.size, i.bytes)) = some (some (.int .u8 0), 1, 1) := by kernel_rfl
theorem Lies.srcB {w : World} {A : Option Addr} {l : List UInt8} {n : Nat} (h : Lies w A (bytesV l)) (hn : l.length = n) (c : Nat) : Src Tryd.prog 1 27 (.slice A n c) n (bytesV l) w := by
  have := Lies.src (P := Tryd.prog) (tx := 27) (e' := 5) h Tryd.underlying27 (bytesV_one _) c
  rwa [bytesV_length, hn] at this
def OwnB (w0 w : World) (v : Value) (l : List UInt8) : Prop := w.ownsRow w0.heap.size 5 1 v l.length (bytesV l) ∧ Fr (fun _ => False) w0 w
theorem OwnB.nil {w0 w : World} (f : Fr (fun _ => False) w0 w) : OwnB w0 w (.slice none 0 0) [] := ⟨World.ownsRow_nil w w0.heap.size 5 1, f⟩
theorem OwnB.fr {w0 w w' : World} {v : Value} {l : List UInt8} (h : OwnB w0 w v l) (f : Fr (fun _ => False) w w') : OwnB w0 w' v l := ⟨own_fr h.1 f (fun _ _ e => e), h.2.trans f (fun _ _ e => e)⟩
theorem OwnB.slice {w0 w : World} {v : Value} {l : List UInt8} (h : OwnB w0 w v l) : ∃ A c, v = .slice A l.length c ∧ l.length ≤ c ∧ Lies w A (bytesV l) ∧ (A = none ∨ ∃ b o, A = some ⟨b, o, none⟩) ∧ c ≤ maxLen := by
  rcases own_shape h.1 with ⟨hv, h0, hx⟩ | ⟨g, cap, hv, hn, hm, _⟩
  · exact ⟨none, 0, by rw [hv, h0], by omega, .inl hx, .inl rfl, Nat.zero_le _⟩
  · subst hv
    exact ⟨_, cap, rfl, hn, Lies.of_own h.1, .inr ⟨g, 0, rfl⟩, hm⟩
theorem OwnB.grow {w0 w w' : World} {v v' : Value} {l m : List UInt8} (h : OwnB w0 w v l) {n k : Nat} (hn : n = l.length) (hk : k = m.length) (o : w'.ownsRow w0.heap.size 5 1 v' (n + k) (bytesV l ++ bytesV m)) (g : w.grownBy w' v.ownBlock) : OwnB w0 w' v' (l ++ m) := by
  refine ⟨?_, fr_append h.1 h.2 g⟩
  rw [List.length_append, bytesV_append, ← hn, ← hk]
  exact o
theorem OwnB.weaken {w0 w1 w : World} {v : Value} {l : List UInt8} (h : OwnB w1 w v l) (f : Fr (fun _ => False) w0 w1) : OwnB w0 w v l := by
  refine ⟨⟨h.1.1, ?_⟩, f.trans h.2 (fun _ _ e => e)⟩
  rcases h.1.2 with h0 | ⟨g, cap, cur, hv, hb, r⟩
  · exact .inl h0
  · exact .inr ⟨g, cap, cur, hv, Nat.le_trans f.size hb, r⟩
/-- A text's bytes, in a row of their own. -/
theorem conv_str (w : World) (l : List UInt8) : ∃ c w', (convert 9 27 (.string (strB l))).run Tryd.prog w = .ok (.slice (some ⟨w.heap.size, 0, none⟩) (strB l).size c) w' ∧ Fr (fun _ => False) w w' ∧ Lies w' (some ⟨w.heap.size, 0, none⟩) (bytesV l) := by
  refine ⟨_, _, run_bytes_of_string w 9 27 5 (strB l) Tryd.underlying9 Tryd.underlying27 Tryd.underlying5, (Fr.refl _ w).drew.alloc _, .inr ⟨w.heap.size, 0, rfl, fun j u hu => ?_⟩⟩
  show (w.drew.alloc _).cell? ⟨w.drew.heap.size, 0 + j, none⟩ = _
  rw [Nat.zero_add, cell_of_row _ _ _ _ _ _ (heap_alloc_new w.drew _)]
  have hj : j < l.length := by
    have := (List.getElem?_eq_some_iff.1 hu).1
    rwa [bytesV_length] at this
  rw [bytesRow, Array.getElem?_append_left (by simpa [strB] using hj), Array.getElem?_map]
  rw [bytesV, List.getElem?_map] at hu
  simpa [strB, byteV] using hu

/-! A line. -/
def lineB (word told : List UInt8) : List UInt8 := word ++ [32] ++ told ++ [10]
theorem lineB_len (word told : List UInt8) : (lineB word told).length = word.length + told.length + 2 := by simp [lineB]; omega
set_option maxHeartbeats 1600000 in
set_option maxRecDepth 100000 in
theorem Vlay_any (w0 w : World) (v : Value) (l word told : List UInt8) (h : OwnB w0 w v l) (hl : l.length ≤ 1000000) (hw : word.length ≤ 1000000) (ht : told.length ≤ 1000000) :
    Calls Tryd.prog 28 #[v, .string (strB word), .string (strB told)] w fun e w' => ∃ v', e = .returned v' ∧ OwnB w0 w' v' (l ++ lineB word told) := by
  have a1 : ∀ w, (Op.stringOp .add (strB word) (ByteArray.mk #[32])).run Tryd.prog w = .ok (.string (strB (word ++ [32]))) w := fun w => add_str word [32] (by simp; omega) w
  have a2 : ∀ w, (Op.stringOp .add (strB (word ++ [32])) (strB told)).run Tryd.prog w = .ok (.string (strB (word ++ [32] ++ told))) w := fun w => add_str (word ++ [32]) told (by simp; omega) w
  have a3 : ∀ w, (Op.stringOp .add (strB (word ++ [32] ++ told)) (ByteArray.mk #[10])).run Tryd.prog w = .ok (.string (strB (lineB word told))) w := fun w => add_str (word ++ [32] ++ told) [10] (by simp; omega) w
  have hsz := lineB_len word told
  have HSL := Lib.hid (strB_size (lineB word told))
  have HSD := Lib.hid (strB_data (lineB word told))
  obtain ⟨m, hm⟩ : ∃ m, (lineB word told).length = m := ⟨_, rfl⟩
  obtain ⟨n, hn⟩ : ∃ n, l.length = n := ⟨_, rfl⟩
  have HMm := Lib.hid hm
  have HNn := Lib.hid hn
  rw [hm] at hsz HSL
  rw [hn] at hl
  have hm2 : m ≤ 2000002 := by omega
  obtain ⟨L, hL⟩ : ∃ L, lineB word told = L := ⟨_, rfl⟩
  rw [hL] at a3 HSL HSD HMm ⊢
  obtain ⟨S1, hS1⟩ : ∃ S, strB word = S := ⟨_, rfl⟩
  obtain ⟨S2, hS2⟩ : ∃ S, strB (word ++ [32]) = S := ⟨_, rfl⟩
  obtain ⟨S3, hS3⟩ : ∃ S, strB told = S := ⟨_, rfl⟩
  obtain ⟨S4, hS4⟩ : ∃ S, strB (word ++ [32] ++ told) = S := ⟨_, rfl⟩
  obtain ⟨S5, hS5⟩ : ∃ S, strB L = S := ⟨_, rfl⟩
  rw [hS1, hS2] at a1
  rw [hS2, hS3, hS4] at a2
  rw [hS4, hS5] at a3
  rw [hS5] at HSL HSD
  rw [hS1, hS3]
  obtain ⟨i0, hi, hz0, hz1, hz2⟩ := info_parts info_u8
  have HO := Lib.hid h
  clear hS1 hS2 hS3 hS4 hS5 hL hm hn hw ht h hsz
  go_enter Tryd.func28, Tryd.ntmps28
  go_wp2_with (at_builtin; refine wpList_append_row _ rfl (.tmp 7) (.tmp 12) 27 9 rfl w0.heap.size 5 i0 (.int .u8 0) 1 1 Tryd.underlying27 hi hz0 hz1 hz2 rfl _ n (bytesV l) rfl (by rw [← HNn.out]; exact HO.out.1) _ m (bytesV L) rfl (by have := Src.ofString (P := Tryd.prog) (w := w) Tryd.underlying9 S5; rw [byteCells_eq, HSD.out, HSL.out] at this; exact this) (by unfold maxLen; omega) (by omega) HO.out.2.size ?_
               intro v2 w2 o2 g2 at2)
  go_ret
  exact ⟨_, rfl, HO.out.grow HNn.out.symm HMm.out.symm o2 g2⟩
set_option maxHeartbeats 1600000 in
set_option maxRecDepth 100000 in
theorem VlayEnd_any (w0 w : World) (v : Value) (l text : List UInt8) (n : Int) (h : OwnB w0 w v l) (hT : Tab10 w) (hl : l.length ≤ 100000) (ht : text.length ≤ 100000) (hn : n ≤ 9223372036854775807) :
    Calls Tryd.prog 30 #[v, .int .i64 n, .string (strB text)] w fun e w' => ∃ v', e = .returned v' ∧ OwnB w0 w' v' (l ++ lineB [116, 105, 109, 101] (digS n) ++ ([10] ++ text)) := by
  have hd : (digS n).length ≤ 21 := by
    unfold digS
    split
    · exact Nat.zero_le _
    · have := Lib.itoa_length_le n (by omega) hn
      rwa [Lib.itoa, if_neg (by omega)] at this
  have HD := Lib.hid (VDigits_any n hn w hT)
  have HLY := Lib.hid (fun w' (b : Below w.heap.size w w') => Vlay_any w0 w' v l [116, 105, 109, 101] (digS n) (h.fr (Fr.of_below b)) (by omega) (by decide) (by omega))
  have a1 : ∀ w, (Op.stringOp .add (ByteArray.mk #[10]) (strB text)).run Tryd.prog w = .ok (.string (strB ([10] ++ text))) w := fun w => add_str [10] text (by simp; omega) w
  have hz := lineB_len [116, 105, 109, 101] (digS n)
  have hlen : (l ++ lineB [116, 105, 109, 101] (digS n)).length ≤ 100030 := by rw [List.length_append, hz]; simp; omega
  obtain ⟨X, hX⟩ : ∃ X, l ++ lineB [116, 105, 109, 101] (digS n) = X := ⟨_, rfl⟩
  rw [hX] at HLY hlen ⊢
  have HSL := Lib.hid (strB_size ([10] ++ text))
  have HSD := Lib.hid (strB_data ([10] ++ text))
  obtain ⟨m, hm⟩ : ∃ m, ([10] ++ text).length = m := ⟨_, rfl⟩
  have HMm := Lib.hid hm
  have hm2 : m ≤ 100001 := by rw [← hm]; simp; omega
  rw [hm] at HSL
  obtain ⟨Y, hY⟩ : ∃ Y, [10] ++ text = Y := ⟨_, rfl⟩
  rw [hY] at a1 HSL HSD HMm ⊢
  obtain ⟨k, hk⟩ : ∃ k, X.length = k := ⟨_, rfl⟩
  have HKk := Lib.hid hk
  rw [hk] at hlen
  obtain ⟨S1, hS1⟩ : ∃ S, strB text = S := ⟨_, rfl⟩
  obtain ⟨S2, hS2⟩ : ∃ S, strB Y = S := ⟨_, rfl⟩
  obtain ⟨S3, hS3⟩ : ∃ S, strB (digS n) = S := ⟨_, rfl⟩
  obtain ⟨S4, hS4⟩ : ∃ S, strB [116, 105, 109, 101] = S := ⟨_, rfl⟩
  have hS4c : ByteArray.mk #[116, 105, 109, 101] = S4 := hS4
  rw [hS1, hS2] at a1
  rw [hS2] at HSL HSD
  rw [hS3] at HD HLY
  rw [hS4] at HLY
  rw [hS1]
  obtain ⟨i0, hi, hz0, hz1, hz2⟩ := info_parts info_u8
  clear hS1 hS2 hS3 hS4 hX hY hm hk ht h hz hT hd hl
  go_enter Tryd.func30, Tryd.ntmps30
  go_wp2_with (first
    | (go_at_call 15; refine HD.out.mono ?_; rintro e w2 ⟨rfl, bb⟩)
    | (go_at_call 28; refine (HLY.out _ bb).mono ?_; rintro e w3 ⟨v3, rfl, o3⟩; have HO := Lib.hid o3; clear o3)
    | (at_builtin; refine wpList_append_row _ rfl (.tmp 11) (.tmp 13) 27 9 rfl w0.heap.size 5 i0 (.int .u8 0) 1 1 Tryd.underlying27 hi hz0 hz1 hz2 rfl _ k (bytesV X) rfl (by rw [← HKk.out]; exact HO.out.1) _ m (bytesV Y) rfl (by have := Src.ofString (P := Tryd.prog) (w := w3) Tryd.underlying9 S2; rw [byteCells_eq, HSD.out, HSL.out] at this; exact this) (by unfold maxLen; omega) (by omega) HO.out.2.size ?_
       intro v4 w4 o4 g4 at4))
  go_ret
  exact ⟨_, rfl, HO.out.grow HKk.out.symm HMm.out.symm o4 g4⟩
end Go.Proofs.YtppddpbacpeadaaDoor

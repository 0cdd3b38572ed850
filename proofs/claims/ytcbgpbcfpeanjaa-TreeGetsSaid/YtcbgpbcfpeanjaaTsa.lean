/- What is proved: what stands ahead of the first byte 0, and behind it; where it stands, and the cut there, by the library. Conditions: the bytes' cells are there. -/
import Derived.Test.YtcbgpbcfpeanjaaTrx
import Derived.Lib.BytesEntry
namespace Go.Proofs.Ytcbgpbcfpeanjaa
open Go.RowKit Go.Sort Go.Shelf
set_option linter.unusedVariables false

def idx0 (l : List UInt8) : Int := Lib.indexByte l 0
/-- What stands ahead of the first byte 0; what stands behind it. -/
def nm (l : List UInt8) : List UInt8 := if idx0 l = -1 then l else l.take (idx0 l).toNat
def bh (l : List UInt8) : List UInt8 := l.drop ((nm l).length + 1)
theorem idx0_cases (l : List UInt8) : (idx0 l = -1 ∧ nm l = l ∧ bh l = [] ∧ ∀ j : Nat, l[j]? ≠ some 0) ∨ ∃ m : Nat, idx0 l = m ∧ m < l.length ∧ nm l = l.take m ∧ bh l = l.drop (m + 1) ∧ l[m]? = some 0 ∧ ∀ j : Nat, j < m → l[j]? ≠ some 0 := by
  have hge := Lib.indexByte_ge l 0
  by_cases h : idx0 l = -1
  · left
    have h1 : nm l = l := by rw [nm, if_pos h]
    exact ⟨h, h1, by rw [bh, h1]; exact List.drop_of_length_le (by omega), fun j => Lib.indexByte_none h j⟩
  · right
    have hge' : -1 ≤ idx0 l := hge
    obtain ⟨m, hm⟩ : ∃ m : Nat, idx0 l = m := ⟨(idx0 l).toNat, by omega⟩
    obtain ⟨h1, h2⟩ := Lib.indexByte_some (show Lib.indexByte l 0 = (m : Nat) from hm)
    have hml := (List.getElem?_eq_some_iff.1 h1).1
    have hn : nm l = l.take m := by rw [nm, if_neg h, hm, Int.toNat_natCast]
    exact ⟨m, hm, hml, hn, by rw [bh, hn, List.length_take]; congr 1; omega, h1, h2⟩
/-- The first byte 0, found by going on. -/
theorem nm_of {l : List UInt8} {e : Nat} (h1 : ∀ j, j < e → l[j]? ≠ some 0) (h2 : e = l.length ∨ l[e]? = some 0) : nm l = l.take e := by
  rcases idx0_cases l with ⟨_, h3, _, h4⟩ | ⟨m, _, hml, h3, _, h5, h6⟩
  · rcases h2 with h2 | h2
    · rw [h3, h2, List.take_length]
    · exact absurd h2 (h4 e)
  · rw [h3]
    have : m = e := by
      rcases Nat.lt_trichotomy m e with h | h | h
      · exact absurd h5 (h1 m h)
      · exact h
      · rcases h2 with h2 | h2
        · omega
        · exact absurd h2 (h6 e h)
    rw [this]

/-- Where the rest of some bytes lies. -/
def tlB (A : Option Addr) (c m : Nat) : Option Addr := if c = m then A else A.map (·.add m)
def Plain (A : Option Addr) : Prop := A = none ∨ ∃ b o, A = some ⟨b, o, none⟩
theorem Plain.tlB {A : Option Addr} (h : Plain A) (c m : Nat) : Plain (tlB A c m) := by
  unfold Proofs.Ytcbgpbcfpeanjaa.tlB
  split
  · exact h
  · rcases h with rfl | ⟨b, o, rfl⟩
    · exact .inl rfl
    · exact .inr ⟨b, o + m, by simp [add_off]⟩
theorem Lies.tlB {w : World} {A : Option Addr} {l : List UInt8} (h : Lies w A (bytesV l)) (c m : Nat) (hc : l.length ≤ c) : Lies w (tlB A c m) (bytesV (l.drop m)) := by
  unfold Proofs.Ytcbgpbcfpeanjaa.tlB
  split
  · rename_i e
    have hd : l.drop m = [] := List.drop_of_length_le (by omega)
    rw [hd]
    exact .inl rfl
  · rcases h with h | ⟨b, o, rfl, hcl⟩
    · have : l = [] := by simpa [bytesV] using h
      subst this
      exact .inl (by simp [bytesV])
    · refine .inr ⟨b, o + m, by simp [add_off], fun j u hu => ?_⟩
      rw [bytesV, List.map_drop, ← bytesV, List.getElem?_drop] at hu
      rw [Nat.add_assoc]
      exact hcl _ _ hu
theorem Lies.takeB {w : World} {A : Option Addr} {l : List UInt8} (h : Lies w A (bytesV l)) (m : Nat) : Lies w A (bytesV (l.take m)) := by
  have := h.take m
  rwa [bytesV, ← List.map_take] at this
theorem Lies.byte {w : World} {b o : Nat} {l : List UInt8} (h : Lies w (some ⟨b, o, none⟩) (bytesV l)) (j : Nat) (u : UInt8) (hj : l[j]? = some u) : w.cell? ⟨b, o + j, none⟩ = some (.int .u8 (u.toNat : Nat)) := by
  have hu : (bytesV l)[j]? = some (.int .u8 (u.toNat : Nat)) := by rw [bytesV, List.getElem?_map, hj]; rfl
  rcases h with h | ⟨b', o', hA, hc⟩
  · rw [h] at hu; simp at hu
  · cases hA
    exact hc j _ hu
theorem Lies.someB {w : World} {A : Option Addr} {l : List UInt8} (h : Lies w A (bytesV l)) (hn : 0 < l.length) : ∃ b o, A = some ⟨b, o, none⟩ := by
  rcases h with h | ⟨b, o, rfl, _⟩
  · have : l = [] := by simpa [bytesV] using h
    rw [this] at hn
    simp at hn
  · exact ⟨b, o, rfl⟩
theorem slice_hdB (A : Option Addr) (hA : Plain A) (n c m : Nat) (h : m ≤ c) (w : World) : (Instr.slice 30 (.slice A n c) none (some (.int .i64 m)) none).run Try.prog w = .ok (.slice A m c) w := by
  have hs : (sizeOf (Try.prog.elem 30)).run Try.prog w = .ok 1 w := by kernel_rfl
  have ht : Try.prog.underlying 30 = some (.slice (Try.prog.elem 30)) := by kernel_rfl
  have e := run_slice_h (P := Try.prog) w 30 A n c ht .i64 (m : Int) (by omega) (by omega)
  rw [e, hs]
  rcases hA with rfl | ⟨b, o, rfl⟩
  · simp [sliced]
  · simp [sliced, add_off]
theorem slice_tlB (A : Option Addr) (n c m : Nat) (h : m ≤ n) (w : World) : (Instr.slice 30 (.slice A n c) (some (.int .i64 m)) none none).run Try.prog w = .ok (.slice (tlB A c m) (n - m) (c - m)) w := by
  have hs : (sizeOf (Try.prog.elem 30)).run Try.prog w = .ok 1 w := by kernel_rfl
  have ht : Try.prog.underlying 30 = some (.slice (Try.prog.elem 30)) := by kernel_rfl
  have e := run_slice_l (P := Try.prog) w 30 A n c ht .i64 (m : Int) (by omega) (by omega)
  rw [e, hs]
  simp [sliced, tlB]

/-- The model's entry. -/
theorem entry_idx (w : World) (A : Option Addr) (hA : Plain A) (c : Nat) (l : List UInt8) (h : Lies w A (bytesV l)) :
    (Extern.BytealgIndexByte.indexByte #[.slice A l.length c, .int .u8 0]).run Try.prog w = .ok (.int .i64 (idx0 l)) w := by
  rcases hA with rfl | ⟨b, o, rfl⟩
  · have : l = [] := by
      rcases h with h | ⟨b, o, h, _⟩
      · simpa [bytesV] using h
      · cases h
    subst this
    exact Lib.run_indexByteNil _ _ _ _
  · have hb : Lib.bytesOf (l.map fun u => ((u.toNat : Nat) : Int)) = l := by
      rw [Lib.bytesOf, List.map_map]
      conv => rhs; rw [← List.map_id l]
      apply List.map_congr_left
      intro u _
      simp
    have := Lib.run_indexByteSlice (P := Try.prog) (w := w) b o l.length c (l.map fun u => ((u.toNat : Nat) : Int)) (by simp) (fun i hi => by
      rw [h.byte i l[i] (List.getElem?_eq_getElem hi), List.getD_eq_getElem?_getD, List.getElem?_map, List.getElem?_eq_getElem hi]; rfl) 0
    rw [hb] at this
    exact this
set_option maxHeartbeats 1000000 in
set_option maxRecDepth 100000 in
theorem GbbIndexByte_any (A : Option Addr) (hA : Plain A) (c : Nat) (l : List UInt8) (w : World) (h : Lies w A (bytesV l)) :
    Calls Try.prog 54 #[.slice A l.length c, .int .u8 0] w fun e w' => e = .returned (.int .i64 (idx0 l)) ∧ w = w' := by
  have hr := Lib.hid (entry_idx w A hA c l h)
  obtain ⟨r, hr'⟩ : ∃ r, idx0 l = r := ⟨_, rfl⟩
  obtain ⟨n, hn⟩ : ∃ n, l.length = n := ⟨_, rfl⟩
  rw [hr', hn] at hr
  rw [hr', hn]
  clear hr' hn h
  go_enter Try.func54, Try.ntmps54
  go_wp2
  rw [run_callFunc_extern Try.func63 (by kernel_rfl) (by kernel_rfl) (by kernel_rfl) (e := Extern.BytealgIndexByte.indexByte) (by kernel_rfl), hr.out]
  simp only [Result.andThen]
  rw [Oper.upon_value]
  go_wp2
  go_ret
  exact ⟨rfl, rfl⟩
set_option maxHeartbeats 1600000 in
set_option maxRecDepth 100000 in
theorem GbbIndex_any (A : Option Addr) (hA : Plain A) (c g : Nat) (l : List UInt8) (w : World) (h : Lies w A (bytesV l)) (hg : w.cell? ⟨g, 0, none⟩ = some (.int .u8 0)) :
    Calls Try.prog 48 #[.slice A l.length c, .slice (some ⟨g, 0, none⟩) 1 1] w fun e w' => e = .returned (.int .i64 (idx0 l)) ∧ w = w' := by
  have hr := Lib.hid (GbbIndexByte_any A hA c l w h)
  obtain ⟨r, hr'⟩ : ∃ r, idx0 l = r := ⟨_, rfl⟩
  obtain ⟨n, hn⟩ : ∃ n, l.length = n := ⟨_, rfl⟩
  rw [hr', hn] at hr
  rw [hr', hn]
  clear hr' hn h hA
  go_enter Try.func48, Try.ntmps48
  go_wp2_with (go_at_call 54; refine hr.out.mono ?_; rintro e w' ⟨rfl, rfl⟩)
  go_ret
  exact ⟨rfl, rfl⟩
end Go.Proofs.Ytcbgpbcfpeanjaa

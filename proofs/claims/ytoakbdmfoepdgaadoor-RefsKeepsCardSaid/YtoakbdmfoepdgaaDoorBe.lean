/- What is proved: what the walks of this seat need of layers below, merged out of the texts Trv Trw Trx Tsa Dej (of each just what is needed). Conditions: each theorem names its own. -/
import Derived.Lib.BytesEntry
import Derived.Deep.QuietTactic
import Derived.BigQuiet
import Derived.Test.YtoakbdmfoepdgaaDoorBd
import Derived.Test.YtoakbdmfoepdgaaDoorBat
set_option maxRecDepth 100000
/- What is proved: entries as bytes, by the program. Conditions: the list's cells are there. -/
namespace Go.Proofs.YtoakbdmfoepdgaaDoor
open Go.RowKit Go.Sort Go.Shelf
set_option linter.unusedVariables false
/-! Bytes of the call's own. -/
theorem info_u8 : (Tryd.prog.info? 5).map (fun i => (i.zero, i.size, i.bytes)) = some (some (.int .u8 0), 1, 1) := by kernel_rfl
theorem Lies.srcB {w : World} {A : Option Addr} {l : List UInt8} {n : Nat} (h : Lies w A (bytesV l)) (hn : l.length = n) (c : Nat) : Src Tryd.prog 1 24 (.slice A n c) n (bytesV l) w := by
  have := Lies.src (P := Tryd.prog) (tx := 24) (e' := 5) h Tryd.underlying24 (bytesV_one _) c
  rwa [bytesV_length, hn] at this
def OwnB (w0 w : World) (v : Value) (l : List UInt8) : Prop := w.ownsRow w0.heap.size 5 1 v l.length (bytesV l) ∧ Fr (fun _ => False) w0 w
theorem OwnB.nil {w0 w : World} (f : Fr (fun _ => False) w0 w) : OwnB w0 w (.slice none 0 0) [] := ⟨World.ownsRow_nil w w0.heap.size 5 1, f⟩
theorem OwnB.fr {w0 w w' : World} {v : Value} {l : List UInt8} (h : OwnB w0 w v l) (f : Fr (fun _ => False) w w') : OwnB w0 w' v l := ⟨own_fr h.1 f (fun _ _ e => e), h.2.trans f (fun _ _ e => e)⟩
theorem OwnB.slice {w0 w : World} {v : Value} {l : List UInt8} (h : OwnB w0 w v l) : ∃ A c, v = .slice A l.length c ∧ l.length ≤ c ∧ Lies w A (bytesV l) := by
  obtain ⟨A, c, hv, hc, _⟩ := own_slice h.1
  subst hv
  exact ⟨A, c, rfl, hc, Lies.of_own h.1⟩
theorem OwnB.grow {w0 w w' : World} {v v' : Value} {l m : List UInt8} (h : OwnB w0 w v l) {n k : Nat} (hn : n = l.length) (hk : k = m.length) (o : w'.ownsRow w0.heap.size 5 1 v' (n + k) (bytesV l ++ bytesV m)) (g : w.grownBy w' v.ownBlock) : OwnB w0 w' v' (l ++ m) := by
  refine ⟨?_, fr_append h.1 h.2 g⟩
  rw [List.length_append, bytesV_append, ← hn, ← hk]
  exact o
/-- Bytes just laid, as a source. -/
theorem src_lit (w : World) (cs : Array Value) (l : List UInt8) (h : cs.toList = bytesV l) (n : Nat) (hn : l.length = n) : Src Tryd.prog 1 24 (.slice (some ⟨w.heap.size, 0, none⟩) n n) n (bytesV l) (w.alloc (.cells cs 5)) :=
  Lies.srcB (.inr ⟨w.heap.size, 0, rfl, fun j u hu => by rw [Nat.zero_add, (Whole.new w 5 cs).cell, ← Array.getElem?_toList, h]; exact hu⟩) hn n
end Go.Proofs.YtoakbdmfoepdgaaDoor
/- What is proved: entries as bytes, by the document. Conditions: the list's cells are there. -/
namespace Go.Proofs.YtoakbdmfoepdgaaDoor
open Go.RowKit Go.Sort Go.Shelf
set_option linter.unusedVariables false
/-- A text's bytes, in a row of their own. -/
theorem conv_str (w : World) (l : List UInt8) : ∃ c w', (convert 9 24 (.string (strB l))).run Tryd.prog w = .ok (.slice (some ⟨w.heap.size, 0, none⟩) (strB l).size c) w' ∧ Fr (fun _ => False) w w' ∧ Lies w' (some ⟨w.heap.size, 0, none⟩) (bytesV l) := by
  refine ⟨_, _, run_bytes_of_string w 9 24 5 (strB l) Tryd.underlying9 Tryd.underlying24 Tryd.underlying5, (Fr.refl _ w).drew.alloc _, .inr ⟨w.heap.size, 0, rfl, fun j u hu => ?_⟩⟩
  show (w.drew.alloc _).cell? ⟨w.drew.heap.size, 0 + j, none⟩ = _
  rw [Nat.zero_add, cell_of_row _ _ _ _ _ _ (heap_alloc_new w.drew _)]
  have hj : j < l.length := by
    have := (List.getElem?_eq_some_iff.1 hu).1
    rwa [bytesV_length] at this
  rw [bytesRow, Array.getElem?_append_left (by simpa [strB] using hj), Array.getElem?_map]
  rw [bytesV, List.getElem?_map] at hu
  simpa [strB, byteV] using hu
end Go.Proofs.YtoakbdmfoepdgaaDoor
/- What is proved: Same tells whether two slices of bytes hold the same bytes; the walk of the law TreePuts, for every list. Conditions: the lists' cells are there. -/
namespace Go.Proofs.YtoakbdmfoepdgaaDoor
open Go.RowKit Go.Sort Go.Shelf
set_option linter.unusedVariables false
theorem bytesV_nums (xs : List UInt8) : bytesV xs = (xs.map fun b => (b.toNat : Int)).map (Value.int .u8) := by simp [bytesV, byteV]
theorem run_convert_lies {P : Program} {w : World} {A : Option Addr} {xs : List UInt8} (src dst e : TypeId) (hs : P.underlying src = some (.slice e)) (he : P.underlying e = some (.int .u8)) (hd : P.underlying dst = some .string)
    (h : Lies w A (bytesV xs)) (c : Nat) : (convert src dst (.slice A xs.length c)).run P w = .ok (.string (strB xs)) w := by
  rcases A with _ | ad
  · have h0 : xs = [] := by
      rcases h with h | ⟨b, o, h, _⟩
      · simpa [bytesV] using h
      · cases h
    subst h0
    exact run_convert_bytes_nil w src e hs he 0 c dst hd
  · have hl : (loadCells ad xs.length).run P w = .ok (bytesV xs).toArray w := by
      have := run_loadCells_list (P := P) w ad (bytesV xs) (fun j v hj => by
        rcases h with h | ⟨b, o, h, hc⟩
        · rw [h] at hj; simp at hj
        · injection h with h
          subst h
          rw [add_off]
          exact hc j v hj)
      rwa [bytesV_length] at this
    rw [bytesV_nums] at hl
    rw [run_convert_bytes_string w src dst e _ _ c hs he hd, run_bytesToString w _ _ c (xs.map fun b => (b.toNat : Int)) hl, foldl_push_bytes]
    have hm : ((xs.map fun b => (b.toNat : Int)).map fun n => UInt8.ofNat n.toNat) = xs := by
      rw [List.map_map]
      conv => rhs; rw [← List.map_id xs]
      apply List.map_congr_left
      intro b _
      simp
    rw [hm]
    simp [strB, ByteArray.empty, ByteArray.emptyWithCapacity]
    rfl
set_option maxHeartbeats 800000 in
theorem Same_any (A B : Option Addr) (c d : Nat) (xs ys : List UInt8) (w : World) (ha : Lies w A (bytesV xs)) (hb : Lies w B (bytesV ys)) :
    Calls Tryd.prog 11 #[.slice A xs.length c, .slice B ys.length d] w fun e w' => e = .returned (.bool (xs == ys)) ∧ w = w' := by
  have e1 := run_convert_lies 24 9 5 Tryd.underlying24 Tryd.underlying5 Tryd.underlying9 ha c
  have e2 := run_convert_lies 24 9 5 Tryd.underlying24 Tryd.underlying5 Tryd.underlying9 hb d
  clear ha hb
  go_enter Tryd.func11, Tryd.ntmps11
  go_wp2
  go_ret
  exact ⟨ret_bool (by show ((strB xs).toList == (strB ys).toList) = _; rw [strB_list, strB_list]), rfl⟩
end Go.Proofs.YtoakbdmfoepdgaaDoor
/- What is proved: what stands ahead of the first byte 0, and behind it; where it stands, and the cut there, by the library. Conditions: the bytes' cells are there. -/
namespace Go.Proofs.YtoakbdmfoepdgaaDoor
open Go.RowKit Go.Sort Go.Shelf
set_option linter.unusedVariables false
theorem Lies.byte {w : World} {b o : Nat} {l : List UInt8} (h : Lies w (some ⟨b, o, none⟩) (bytesV l)) (j : Nat) (u : UInt8) (hj : l[j]? = some u) : w.cell? ⟨b, o + j, none⟩ = some (.int .u8 (u.toNat : Nat)) := by
  have hu : (bytesV l)[j]? = some (.int .u8 (u.toNat : Nat)) := by rw [bytesV, List.getElem?_map, hj]; rfl
  rcases h with h | ⟨b', o', hA, hc⟩
  · rw [h] at hu; simp at hu
  · cases hA
    exact hc j _ hu
theorem Lies.someB {w : World} {A : Option Addr} {l : List UInt8} (h : Lies w A (bytesV l)) (hn : 0 < l.length) : ∃ b o, A = some ⟨b, o, none⟩ := by
  rcases h with h | ⟨b, o, rfl, _⟩
  · have : l = [] := by simpa [bytesV] using h
    rw [this] at hn
    simp at hn
  · exact ⟨b, o, rfl⟩
end Go.Proofs.YtoakbdmfoepdgaaDoor
/- What is proved: parts of rows of bytes: where they lie. Conditions: none but each lemma's own. -/
namespace Go.Proofs.YtoakbdmfoepdgaaDoor
open Go.RowKit
set_option linter.unusedVariables false
/-- Where the rest of some bytes lies. -/
def tlB (A : Option Addr) (c m : Nat) : Option Addr := if c = m then A else A.map (·.add m)
theorem Lies.tlB {w : World} {A : Option Addr} {l : List UInt8} (h : Lies w A (bytesV l)) (c m : Nat) (hc : l.length ≤ c) : Lies w (tlB A c m) (bytesV (l.drop m)) := by
  unfold Proofs.YtoakbdmfoepdgaaDoor.tlB
  split
  · rename_i e
    have hd : l.drop m = [] := List.drop_of_length_le (by omega)
    rw [hd]
    exact .inl rfl
  · rcases h with h | ⟨b, o, rfl, hcl⟩
    · have : l = [] := by simpa [bytesV] using h
      subst this
      exact .inl (by simp [bytesV])
    · refine .inr ⟨b, o + m, by simp [add_off], fun j u hu => ?_⟩
      rw [bytesV, List.map_drop, ← bytesV, List.getElem?_drop] at hu
      rw [Nat.add_assoc]
      exact hcl _ _ hu
theorem Lies.takeB {w : World} {A : Option Addr} {l : List UInt8} (h : Lies w A (bytesV l)) (m : Nat) : Lies w A (bytesV (l.take m)) := by
  rcases h with h | ⟨b, o, rfl, hcl⟩
  · have : l = [] := by simpa [bytesV] using h
    subst this
    exact .inl (by simp [bytesV])
  · refine .inr ⟨b, o, rfl, fun j u hu => hcl j u ?_⟩
    rw [bytesV, List.map_take, List.getElem?_take] at hu
    split at hu
    · exact hu
    · cases hu
theorem elem1 (w : World) : (sizeOf (Tryd.prog.elem 24)).run Tryd.prog w = .ok 1 w := by kernel_rfl
theorem undB : Tryd.prog.underlying 24 = some (.slice (Tryd.prog.elem 24)) := by kernel_rfl
theorem slice_tlB (A : Option Addr) (n c m : Nat) (h : m ≤ n) (w : World) : (Instr.slice 24 (.slice A n c) (some (.int .i64 m)) none none).run Tryd.prog w = .ok (.slice (tlB A c m) (n - m) (c - m)) w := by
  have e := run_slice_l (P := Tryd.prog) w 24 A n c undB .i64 (m : Int) (by omega) (by omega)
  rw [e, elem1]
  simp [sliced, tlB]
theorem slice_lhB (A : Option Addr) (n c lo hi : Nat) (h1 : lo ≤ hi) (h2 : hi ≤ c) (w : World) : (Instr.slice 24 (.slice A n c) (some (.int .i64 lo)) (some (.int .i64 hi)) none).run Tryd.prog w = .ok (.slice (tlB A c lo) (hi - lo) (c - lo)) w := by
  have e := run_slice_lh (P := Tryd.prog) w 24 A n c undB .i64 .i64 (lo : Int) (hi : Int) (by omega) (by omega) (by omega)
  rw [e, elem1]
  simp [sliced, tlB]
/-- Bytes from one place on up to another one. -/
theorem Lies.cutB {w : World} {A : Option Addr} {l : List UInt8} (h : Lies w A (bytesV l)) (c lo n : Nat) (hc : l.length ≤ c) : Lies w (Proofs.YtoakbdmfoepdgaaDoor.tlB A c lo) (bytesV ((l.drop lo).take n)) := (h.tlB c lo hc).takeB n
end Go.Proofs.YtoakbdmfoepdgaaDoor

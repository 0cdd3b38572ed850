/- What is proved: what the walks of this seat need of layers below, merged out of the texts Trv Trw Trx (of each just what is needed). Conditions: each theorem names its own. -/
import Derived.Test.YtgmohgofcjemkaaBat
import Derived.Test.YtgmohgofcjemkaaBd
set_option maxRecDepth 100000
/- What is proved: entries as bytes, by the program. Conditions: the list's cells are there. -/
namespace Go.Proofs.Ytgmohgofcjemkaa
open Go.RowKit Go.Sort Go.Shelf
set_option linter.unusedVariables false
/-! Bytes of the call's own. -/
theorem info_u8 : (Try.prog.info? 5).map (fun i => (i.zero, i.size, i.bytes)) = some (some (.int .u8 0), 1, 1) := by kernel_rfl
theorem Lies.srcB {w : World} {A : Option Addr} {l : List UInt8} {n : Nat} (h : Lies w A (bytesV l)) (hn : l.length = n) (c : Nat) : Src Try.prog 1 28 (.slice A n c) n (bytesV l) w := by
  have := Lies.src (P := Try.prog) (tx := 28) (e' := 5) h Try.underlying28 (bytesV_one _) c
  rwa [bytesV_length, hn] at this
def OwnB (w0 w : World) (v : Value) (l : List UInt8) : Prop := w.ownsRow w0.heap.size 5 1 v l.length (bytesV l) ∧ Fr (fun _ => False) w0 w
theorem OwnB.nil {w0 w : World} (f : Fr (fun _ => False) w0 w) : OwnB w0 w (.slice none 0 0) [] := ⟨World.ownsRow_nil w w0.heap.size 5 1, f⟩
theorem OwnB.fr {w0 w w' : World} {v : Value} {l : List UInt8} (h : OwnB w0 w v l) (f : Fr (fun _ => False) w w') : OwnB w0 w' v l := ⟨own_fr h.1 f (fun _ _ e => e), h.2.trans f (fun _ _ e => e)⟩
theorem OwnB.slice {w0 w : World} {v : Value} {l : List UInt8} (h : OwnB w0 w v l) : ∃ A c, v = .slice A l.length c ∧ l.length ≤ c ∧ Lies w A (bytesV l) := by
  obtain ⟨A, c, hv, hc, _⟩ := own_slice h.1
  subst hv
  exact ⟨A, c, rfl, hc, Lies.of_own h.1⟩
theorem OwnB.grow {w0 w w' : World} {v v' : Value} {l m : List UInt8} (h : OwnB w0 w v l) {n k : Nat} (hn : n = l.length) (hk : k = m.length) (o : w'.ownsRow w0.heap.size 5 1 v' (n + k) (bytesV l ++ bytesV m)) (g : w.grownBy w' v.ownBlock) : OwnB w0 w' v' (l ++ m) := by
  refine ⟨?_, fr_append h.1 h.2 g⟩
  rw [List.length_append, bytesV_append, ← hn, ← hk]
  exact o
/-- Bytes just laid, as a source. -/
theorem src_lit (w : World) (cs : Array Value) (l : List UInt8) (h : cs.toList = bytesV l) (n : Nat) (hn : l.length = n) : Src Try.prog 1 28 (.slice (some ⟨w.heap.size, 0, none⟩) n n) n (bytesV l) (w.alloc (.cells cs 5)) :=
  Lies.srcB (.inr ⟨w.heap.size, 0, rfl, fun j u hu => by rw [Nat.zero_add, (Whole.new w 5 cs).cell, ← Array.getElem?_toList, h]; exact hu⟩) hn n
end Go.Proofs.Ytgmohgofcjemkaa
/- What is proved: Same tells whether two slices of bytes hold the same bytes; the walk of the law TreePuts, for every list. Conditions: the lists' cells are there. -/
namespace Go.Proofs.Ytgmohgofcjemkaa
open Go.RowKit Go.Sort Go.Shelf
set_option linter.unusedVariables false
theorem bytesV_nums (xs : List UInt8) : bytesV xs = (xs.map fun b => (b.toNat : Int)).map (Value.int .u8) := by simp [bytesV, byteV]
theorem run_convert_lies {P : Program} {w : World} {A : Option Addr} {xs : List UInt8} (src dst e : TypeId) (hs : P.underlying src = some (.slice e)) (he : P.underlying e = some (.int .u8)) (hd : P.underlying dst = some .string)
    (h : Lies w A (bytesV xs)) (c : Nat) : (convert src dst (.slice A xs.length c)).run P w = .ok (.string (strB xs)) w := by
  rcases A with _ | ad
  · have h0 : xs = [] := by
      rcases h with h | ⟨b, o, h, _⟩
      · simpa [bytesV] using h
      · cases h
    subst h0
    exact run_convert_bytes_nil w src e hs he 0 c dst hd
  · have hl : (loadCells ad xs.length).run P w = .ok (bytesV xs).toArray w := by
      have := run_loadCells_list (P := P) w ad (bytesV xs) (fun j v hj => by
        rcases h with h | ⟨b, o, h, hc⟩
        · rw [h] at hj; simp at hj
        · injection h with h
          subst h
          rw [add_off]
          exact hc j v hj)
      rwa [bytesV_length] at this
    rw [bytesV_nums] at hl
    rw [run_convert_bytes_string w src dst e _ _ c hs he hd, run_bytesToString w _ _ c (xs.map fun b => (b.toNat : Int)) hl, foldl_push_bytes]
    have hm : ((xs.map fun b => (b.toNat : Int)).map fun n => UInt8.ofNat n.toNat) = xs := by
      rw [List.map_map]
      conv => rhs; rw [← List.map_id xs]
      apply List.map_congr_left
      intro b _
      simp
    rw [hm]
    simp [strB, ByteArray.empty, ByteArray.emptyWithCapacity]
    rfl
set_option maxHeartbeats 800000 in
theorem Same_any (A B : Option Addr) (c d : Nat) (xs ys : List UInt8) (w : World) (ha : Lies w A (bytesV xs)) (hb : Lies w B (bytesV ys)) :
    Calls Try.prog 12 #[.slice A xs.length c, .slice B ys.length d] w fun e w' => e = .returned (.bool (xs == ys)) ∧ w = w' := by
  have e1 := run_convert_lies 28 9 5 Try.underlying28 Try.underlying5 Try.underlying9 ha c
  have e2 := run_convert_lies 28 9 5 Try.underlying28 Try.underlying5 Try.underlying9 hb d
  clear ha hb
  go_enter Try.func12, Try.ntmps12
  go_wp2
  go_ret
  exact ⟨ret_bool (by show ((strB xs).toList == (strB ys).toList) = _; rw [strB_list, strB_list]), rfl⟩
end Go.Proofs.Ytgmohgofcjemkaa

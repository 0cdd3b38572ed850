/- What is proved: bytes become a string. Conditions: the slice's cells are there. -/
import Derived.Test.YtppddpbacpeadaaDoorRows
import Derived.Test.YtppddpbacpeadaaDoorMem
import Derived.Deep.DeepFit
import Derived.WalkSpells
import Derived.WalkLawsBesides
import Derived.Laws.IdiomStrings
namespace Go.Proofs.YtppddpbacpeadaaDoor.Ids
open Go.RowKit
set_option linter.unusedVariables false

/-- Bytes as a string's bytes. -/
def strB (xs : List UInt8) : ByteArray := ⟨xs.toArray⟩
theorem strB_list (xs : List UInt8) : (strB xs).toList = xs := ByteArray.toList_mk xs

theorem bytesV_nums (xs : List UInt8) : bytesV xs = (xs.map fun b => (b.toNat : Int)).map (Value.int .u8) := by simp [bytesV, byteV]
theorem run_convert_lies {P : Program} {w : World} {A : Option Addr} {xs : List UInt8} (src dst e : TypeId) (hs : P.underlying src = some (.slice e)) (he : P.underlying e = some (.int .u8)) (hd : P.underlying dst = some .string)
    (h : Lies w A (bytesV xs)) (c : Nat) : (convert src dst (.slice A xs.length c)).run P w = .ok (.string (strB xs)) w := by
  rcases A with _ | ad
  · have h0 : xs = [] := by
      rcases h with h | ⟨b, o, h, _⟩
      · simpa [bytesV] using h
      · cases h
    subst h0
    exact run_convert_bytes_nil w src e hs he 0 c dst hd
  · have hl : (loadCells ad xs.length).run P w = .ok (bytesV xs).toArray w := by
      have := run_loadCells_list (P := P) w ad (bytesV xs) (fun j v hj => by
        rcases h with h | ⟨b, o, h, hc⟩
        · rw [h] at hj; simp at hj
        · injection h with h
          subst h
          rw [add_off]
          exact hc j v hj)
      rwa [bytesV_length] at this
    rw [bytesV_nums] at hl
    rw [run_convert_bytes_string w src dst e _ _ c hs he hd, run_bytesToString w _ _ c (xs.map fun b => (b.toNat : Int)) hl, foldl_push_bytes]
    have hm : ((xs.map fun b => (b.toNat : Int)).map fun n => UInt8.ofNat n.toNat) = xs := by
      rw [List.map_map]
      conv => rhs; rw [← List.map_id xs]
      apply List.map_congr_left
      intro b _
      simp
    rw [hm]
    simp [strB, ByteArray.empty, ByteArray.emptyWithCapacity]
    rfl
end Go.Proofs.YtppddpbacpeadaaDoor.Ids

/- What is proved: an id that is laid byte by byte, plain. Conditions: none. -/
import Derived.Test.YtcbgpbcfpeanjaaTse
namespace Go.Proofs.Ytcbgpbcfpeanjaa
open Go.RowKit Go.Sort Go.Shelf
set_option linter.unusedVariables false

/-- The cells of an entry whose id is laid up to byte k. -/
def idTo (S : ByteArray) (m : Int) (id : List UInt8) (k : Nat) : Array Value := (.string S :: .int .i64 m :: bytesV (id.take k ++ List.replicate (32 - k) 0)).toArray
theorem idTo_size (S : ByteArray) (m : Int) (id : List UInt8) (k : Nat) (hi : id.length = 32) (hk : k ≤ 32) : (idTo S m id k).size = 34 := by
  simp [idTo, bytesV_length, hi]; omega
theorem idTo_all (S : ByteArray) (m : Int) (id : List UInt8) (hi : id.length = 32) : idTo S m id 32 = (.string S :: .int .i64 m :: bytesV id).toArray := by
  rw [idTo, List.take_of_length_le (by omega)]; simp
theorem idTo_set (S : ByteArray) (m : Int) (id : List UInt8) (k : Nat) (hi : id.length = 32) (hk : k < 32) (u : UInt8) (hu : id[k]? = some u) : (idTo S m id k).setIfInBounds (2 + k) (.int .u8 (u.toNat : Nat)) = idTo S m id (k + 1) := by
  have h1 : (id.take k ++ List.replicate (32 - k) 0).set k u = id.take (k + 1) ++ List.replicate (32 - (k + 1)) 0 := by
    have hl : (id.take k).length = k := by rw [List.length_take]; omega
    rw [List.take_add_one, hu, show 32 - k = (32 - (k + 1)) + 1 by omega, List.replicate_succ, List.set_append_right _ _ (by omega), hl, Nat.sub_self]
    simp
  unfold idTo
  rw [← h1, List.setIfInBounds_toArray, Nat.add_comm 2 k, List.set_cons_succ, List.set_cons_succ]
  simp [bytesV, List.map_set, byteV]
end Go.Proofs.Ytcbgpbcfpeanjaa

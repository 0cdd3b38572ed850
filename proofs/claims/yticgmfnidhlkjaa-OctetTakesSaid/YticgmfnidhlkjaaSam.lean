/- What is proved: Same tells whether two slices of bytes hold the same bytes; works answers true; bytes become a string. Conditions: the slices' cells are there. -/
import Derived.Test.YticgmfnidhlkjaaWri
namespace Go.Proofs.Yticgmfnidhlkjaa
open Go.RowKit
set_option linter.unusedVariables false

/-- Bytes as a string's bytes. -/
def strB (xs : List UInt8) : ByteArray := ⟨xs.toArray⟩
theorem strB_toList (xs : List UInt8) : (strB xs).data.toList = xs := rfl
theorem strB_size (xs : List UInt8) : (strB xs).size = xs.length := by simp [strB, ByteArray.size]
theorem strB_list (xs : List UInt8) : (strB xs).toList = xs := ByteArray.toList_mk xs
theorem strB_of (s : ByteArray) : strB s.data.toList = s := rfl

theorem bytesV_nums (xs : List UInt8) : bytesV xs = (xs.map fun b => (b.toNat : Int)).map (Value.int .u8) := by simp [bytesV, byteV]
theorem run_convert_lies {P : Program} {w : World} {A : Option Addr} {xs : List UInt8} (src dst e : TypeId) (hs : P.underlying src = some (.slice e)) (he : P.underlying e = some (.int .u8)) (hd : P.underlying dst = some .string)
    (h : Lies w A (bytesV xs)) (c : Nat) : (convert src dst (.slice A xs.length c)).run P w = .ok (.string (strB xs)) w := by
  rcases A with _ | ad
  · have h0 : xs = [] := by
      rcases h with h | ⟨b, o, h, _⟩
      · simpa [bytesV] using h
      · cases h
    subst h0
    exact run_convert_bytes_nil w src e hs he 0 c dst hd
  · have hl : (loadCells ad xs.length).run P w = .ok (bytesV xs).toArray w := by
      have := run_loadCells_list (P := P) w ad (bytesV xs) (fun j v hj => by
        rcases h with h | ⟨b, o, h, hc⟩
        · rw [h] at hj; simp at hj
        · injection h with h
          subst h
          rw [add_off]
          exact hc j v hj)
      rwa [bytesV_length] at this
    rw [bytesV_nums] at hl
    rw [run_convert_bytes_string w src dst e _ _ c hs he hd, run_bytesToString w _ _ c (xs.map fun b => (b.toNat : Int)) hl, foldl_push_bytes]
    have hm : ((xs.map fun b => (b.toNat : Int)).map fun n => UInt8.ofNat n.toNat) = xs := by
      rw [List.map_map]
      conv => rhs; rw [← List.map_id xs]
      apply List.map_congr_left
      intro b _
      simp
    rw [hm]
    simp [strB, ByteArray.empty, ByteArray.emptyWithCapacity]
    rfl

set_option maxHeartbeats 800000 in
theorem Same_any (A B : Option Addr) (c d : Nat) (xs ys : List UInt8) (w : World) (ha : Lies w A (bytesV xs)) (hb : Lies w B (bytesV ys)) :
    Calls Try.prog 12 #[.slice A xs.length c, .slice B ys.length d] w fun e w' => e = .returned (.bool (xs == ys)) ∧ w = w' := by
  have e1 := run_convert_lies 25 9 5 Try.underlying25 Try.underlying5 Try.underlying9 ha c
  have e2 := run_convert_lies 25 9 5 Try.underlying25 Try.underlying5 Try.underlying9 hb d
  clear ha hb
  go_enter Try.func12, Try.ntmps12
  go_wp2
  go_ret
  exact ⟨ret_bool (by show ((strB xs).toList == (strB ys).toList) = _; rw [strB_list, strB_list]), rfl⟩

theorem Same_n (A B : Option Addr) (c d N M : Nat) (xs ys : List UInt8) (w : World) (hN : xs.length = N) (hM : ys.length = M) (ha : Lies w A (bytesV xs)) (hb : Lies w B (bytesV ys)) :
    Calls Try.prog 12 #[.slice A N c, .slice B M d] w fun e w' => e = .returned (.bool (xs == ys)) ∧ w = w' := by
  subst hN; subst hM
  exact Same_any A B c d xs ys w ha hb

theorem own_lies {w : World} {base : Nat} {v : Value} {xs : List UInt8} (h : w.ownsRow base 5 1 v xs.length (bytesV xs)) : ∃ A c, v = .slice A xs.length c ∧ xs.length ≤ c ∧ Lies w A (bytesV xs) ∧ ∀ ad, A = some ad → v.ownBlock = some ad.block := by
  obtain ⟨A, c, hv, hc, _⟩ := own_slice h
  subst hv
  exact ⟨A, c, rfl, hc, Lies.of_own h, fun ad e => by subst e; rfl⟩

/-- works answers true, whatever the world; of what was there nothing turns. -/
def TruePost (w : World) (e : Ending) (w' : World) : Prop := e = .returned (.bool true) ∧ Below w.heap.size w w'

theorem varB300 : varB 300 = [172, 2] := by decide
theorem textB_ab : textB [97, 98] = [2, 97, 98] := by decide

set_option maxHeartbeats 1600000 in
theorem works_any (w : World) : Calls Try.prog 14 #[] w (TruePost w) := by
  have hwr := Wr.new w
  have HN := Lib.hid hwr
  clear hwr
  have hba : Below w.heap.size w (w.alloc (.cells #[.slice none 0 0] 63)) := (Below.refl _ _).alloc (Nat.le_refl _) _
  go_enter Try.func14, Try.ntmps14
  go_wp2_with (first
    | (go_at_call 8; refine (NewWriter_any w).mono ?_; rintro e w1 ⟨rfl, hw1⟩; subst hw1)
    | (go_at_call 26; refine (WVar_any _ _ [] _ _ HN.out (by omega) (by omega) (by simp)).mono ?_; rintro e w2 ⟨rfl, v2, hw2, hs2⟩; replace hw2 : Wr w2 w.heap.size v2 [172, 2] := hw2)
    | (go_at_call 27; refine (WText_any _ _ _ _ _ hw2 (by decide)).mono ?_; rintro e w3 ⟨rfl, v3, hw3, hs3⟩; replace hw3 : Wr w3 w.heap.size v3 [172, 2, 2, 97, 98] := hw3)
    | (go_at_call 11; refine (WLen_any _ _ _ _ hw3).mono ?_; rintro e w4 ⟨rfl, hw4⟩; subst hw4)
    | (go_at_call 13; refine (WBytes_any _ _ _ _ hw3 (by decide)).mono ?_; rintro e w5 ⟨v5, rfl, h5, b5⟩; obtain ⟨A5, c5, rfl, -, l5, -⟩ := own_lies h5; have e5 : (convert 25 9 (.slice A5 5 c5)).run Try.prog w5 = .ok (.string ⟨#[172, 2, 2, 97, 98]⟩) w5 := run_convert_lies 25 9 5 Try.underlying25 Try.underlying5 Try.underlying9 l5 c5; clear h5 l5))
  go_ret
  have hs := (hs2.trans hs3).fr
  have f3 : Fr (fun _ => False) w w3 := (Fr.of_below hba).trans hs (fun i hi hk => by
    rcases hk with hk | hk
    · omega
    · simp [Value.ownBlock] at hk)
  exact ⟨rfl, (f3.then_below b5).below (fun _ _ e => e)⟩
end Go.Proofs.Yticgmfnidhlkjaa

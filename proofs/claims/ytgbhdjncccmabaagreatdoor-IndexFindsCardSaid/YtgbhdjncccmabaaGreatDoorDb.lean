/- What is proved: what the walks of this seat need of layers below, merged out of the texts Wri Sam (of each just what is needed). Conditions: each theorem names its own. -/
import Derived.Test.YtgbhdjncccmabaaGreatDoorRows
import Derived.Deep.DeepFit
import Derived.WalkSpells
import Derived.WalkLawsBesides
import Derived.Laws.EntriesVeiled
import Derived.Test.YtgbhdjncccmabaaGreatDoorDa
/- What is proved: what the Writer's own calls Byte, Raw, Len, Bytes, and own and NewWriter do to the memory: bytes are laid behind those that are there, on a writer that the caller holds, or nothing is done to a nil one. Conditions: the length stays below 2^47. -/
namespace Go.Proofs.YtgbhdjncccmabaaGreatDoor
open Go.RowKit
set_option linter.unusedVariables false
theorem info_u8 : (Tryz.prog.info? 5).map (fun i => (i.zero, i.size, i.bytes)) = some (some (.int .u8 0), 1, 1) := by kernel_rfl
/-- The byte of an integer below 256. -/
def toB (c : Int) : UInt8 := UInt8.ofNat c.toNat
theorem byteV_toB {c : Int} (h0 : 0 ≤ c) (h1 : c ≤ 255) : byteV (toB c) = .int .u8 c := by
  unfold byteV toB
  rw [UInt8.toNat_ofNat', Nat.mod_eq_of_lt (by omega), Int.toNat_of_nonneg h0]
/-- A writer at block g that holds the bytes xs; v is its slice. -/
def Wr (w : World) (g : Nat) (v : Value) (xs : List UInt8) : Prop := Whole w g 153 #[v] ∧ w.ownsRow 0 5 1 v xs.length (bytesV xs)
/-- What a step of a writer leaves alone. -/
structure WSt (w : World) (g : Nat) (v : Value) (w' : World) (v' : Value) : Prop where
  fr : Fr (fun k => k = g ∨ v.ownBlock = some k) w w'
  own : v'.ownBlock = v.ownBlock ∨ ∃ b, v'.ownBlock = some b ∧ w.heap.size ≤ b
def WTo (w : World) (g : Nat) (v : Value) (xs : List UInt8) (w' : World) : Prop := ∃ v', Wr w' g v' xs ∧ WSt w g v w' v'
def WPost (w : World) (g : Nat) (v : Value) (xs : List UInt8) (e : Ending) (w' : World) : Prop := e = .returned (.tuple #[]) ∧ WTo w g v xs w'
theorem WSt.refl (w : World) (g : Nat) (v : Value) : WSt w g v w v := ⟨Fr.refl _ _, .inl rfl⟩
theorem WSt.trans {w w1 w2 : World} {g : Nat} {v v1 v2 : Value} (h : WSt w g v w1 v1) (k : WSt w1 g v1 w2 v2) : WSt w g v w2 v2 := by
  refine ⟨h.fr.trans k.fr (fun i hi hT => ?_), ?_⟩
  · rcases hT with hT | hT
    · exact .inl hT
    · rcases h.own with ho | ⟨b, ho, hb⟩
      · exact .inr (ho ▸ hT)
      · rw [ho] at hT
        injection hT with hT
        omega
  · rcases k.own with ko | ⟨b, ko, kb⟩
    · rw [ko]; exact h.own
    · exact .inr ⟨b, ko, Nat.le_trans h.fr.size kb⟩
theorem WTo.trans {w w1 w2 : World} {g : Nat} {v : Value} {xs ys : List UInt8} (h : WTo w g v xs w1) (k : ∀ v1, Wr w1 g v1 xs → WTo w1 g v1 ys w2) : WTo w g v ys w2 := by
  obtain ⟨v1, h1, s1⟩ := h
  obtain ⟨v2, h2, s2⟩ := k v1 h1
  exact ⟨v2, h2, s1.trans s2⟩
theorem Wr.below {w w' : World} {g : Nat} {v : Value} {xs : List UInt8} (h : Wr w g v xs) (f : Below w.heap.size w w') : Wr w' g v xs :=
  ⟨h.1.fr (Fr.of_below (S := fun _ => False) f) (fun e => e), own_fr h.2 (Fr.of_below (S := fun _ => False) f) (fun _ _ e => e)⟩
theorem Wr.fr {S : Nat → Prop} {w w' : World} {g : Nat} {v : Value} {xs : List UInt8} (h : Wr w g v xs) (f : Fr S w w') (h1 : ¬ S g) (h2 : ∀ k, v.ownBlock = some k → ¬ S k) : Wr w' g v xs :=
  ⟨h.1.fr f h1, own_fr h.2 f h2⟩
/-- The store of the new slice into the writer's cell, behind an append. -/
theorem wr_close {w w0 w1 : World} {g : Nat} {v v' : Value} {xs ys : List UInt8} (h : Wr w g v xs) (f0 : Below w.heap.size w w0)
    (hown : w1.ownsRow 0 5 1 v' (xs.length + ys.length) (bytesV xs ++ bytesV ys)) (hg : w0.grownBy w1 v.ownBlock) (hat : v'.ownBlock = v.ownBlock ∨ ∃ b, v'.ownBlock = some b ∧ w.heap.size ≤ b) :
    WTo w g v (xs ++ ys) (w1.setCell ⟨g, 0, none⟩ v') := by
  have hne : v.ownBlock ≠ some g := own_apart h.2 h.1 (by decide)
  have hw0 := h.1.fr (Fr.of_below (S := fun _ => False) f0) (fun e => e)
  have hglt := h.1.lt
  have f1 : Fr (fun k => k = g ∨ v.ownBlock = some k) w w1 := (Fr.of_below f0).grown hg (fun k hk _ => .inr hk)
  have hw1 : Whole w1 g 153 #[v] := (hg.block g hw0.lt (fun e => hne e.symm)).trans hw0
  have hne' : v'.ownBlock ≠ some g := by
    rcases hat with e | e
    · rw [e]; exact hne
    · obtain ⟨b, e, hb⟩ := e
      rw [e]; intro e2; injection e2 with e2; omega
  refine ⟨v', ⟨?_, ?_⟩, ⟨f1.setCell (fun _ => .inl rfl) v', ?_⟩⟩
  · simpa using hw1.set 0 v'
  · rw [List.length_append, bytesV_append]
    exact own_fr hown ((Fr.refl (fun k => k = g) w1).setCell (p := ⟨g, 0, none⟩) (fun _ => rfl) v') (fun k hk e => hne' (by rw [hk, e]))
  · exact hat
theorem wr_cell {w w0 w1 : World} {g : Nat} {v : Value} {xs : List UInt8} (h : Wr w g v xs) (f0 : Below w.heap.size w w0) (hg : w0.grownBy w1 v.ownBlock) :
    w1.cell? ⟨g, 0, none⟩ = some v ∧ w1.frozen? ⟨g, 0, none⟩ = false := by
  have hne : v.ownBlock ≠ some g := own_apart h.2 h.1 (by decide)
  have hw0 := h.1.fr (Fr.of_below (S := fun _ => False) f0) (fun e => e)
  have hw1 : Whole w1 g 153 #[v] := (hg.block g hw0.lt (fun e => hne e.symm)).trans hw0
  exact ⟨by simpa using hw1.cell 0, hw1.frozen 0⟩
set_option maxHeartbeats 800000 in
theorem WByte_any (g : Nat) (v : Value) (xs : List UInt8) (c : Int) (w : World) (h : Wr w g v xs) (h0 : 0 ≤ c) (h1 : c ≤ 255) (hb : xs.length + 1 ≤ 140737488355328) :
    Calls Tryz.prog 97 #[.pointer (some ⟨g, 0, none⟩), .int .u8 c] w (WPost w g v (xs ++ [toB c])) := by
  have hown := h.2
  have hc0 : w.cell? ⟨g, 0, none⟩ = some v := by simpa using h.1.cell 0
  have hf0 := h.1.frozen 0
  have hlt := h.1.lt
  obtain ⟨A, cp, hv, -, -⟩ := own_slice hown
  subst hv
  obtain ⟨i0, hi, hz0, hz1, hz2⟩ := info_parts info_u8
  have hby : bytesV [toB c] = [.int .u8 c] := by show [byteV (toB c)] = _; rw [byteV_toB h0 h1]
  have HB := Lib.hid hby
  clear hby
  have hsrc : Src Tryz.prog 1 28 (.slice (some ⟨w.heap.size, 0, none⟩) 1 1) 1 [.int .u8 c] (w.alloc (.cells #[.int .u8 c] 5)) :=
    Src.ofSlice _ Tryz.underlying28 ⟨w.heap.size, 0, none⟩ 1 1 [.int .u8 c] rfl (by intro j u hj; match j, hj with | 0, hj => simp at hj; subst hj; simp [Addr.add]) (by intro u hu; simp at hu; subst hu; rfl)
  have hba : Below w.heap.size w (w.alloc (.cells #[.int .u8 c] 5)) := (Below.refl _ _).alloc (Nat.le_refl _) _
  go_enter Tryz.func97, Tryz.ntmps97
  go_wp2_with (at_builtin; refine wpList_append_row _ rfl (.tmp 10) (.tmp 12) 28 28 rfl 0 5 i0 (.int .u8 0) 1 1 Tryz.underlying28 hi hz0 hz1 hz2 rfl _ xs.length (bytesV xs) rfl (hown.alloc _) _ 1 [.int .u8 c] rfl hsrc (by unfold maxLen; omega) (by omega) (Nat.zero_le _) ?_)
  intro v' w1 hown1 hgr hat
  obtain ⟨hk, hkf⟩ := wr_cell h hba hgr
  obtain ⟨A', cp', hv', -, -⟩ := own_slice hown1
  subst hv'
  go_wp2
  go_end0
  rw [← HB.out] at hown1
  exact ⟨rfl, wr_close (ys := [toB c]) h hba hown1 hgr (hat.imp id fun e => ⟨_, e, by omega⟩)⟩
set_option maxHeartbeats 800000 in
theorem own_any (A : Option Addr) (c : Nat) (xs : List UInt8) (w : World) (h : Lies w A (bytesV xs)) (hb : xs.length ≤ 140737488355328) :
    Calls Tryz.prog 70 #[.slice A xs.length c] w fun e w' => ∃ v, e = .returned v ∧ w'.ownsRow w.heap.size 5 1 v xs.length (bytesV xs) ∧ Below w.heap.size w w' := by
  obtain ⟨i0, hi, hz0, hz1, hz2⟩ := info_parts info_u8
  have hsrc := h.src Tryz.underlying28 (bytesV_one xs) c
  rw [bytesV_length] at hsrc
  go_enter Tryz.func70, Tryz.ntmps70
  go_wp2_with (at_builtin; refine wpList_append_row _ rfl _ (.tmp 3) 28 28 rfl w.heap.size 5 i0 (.int .u8 0) 1 1 Tryz.underlying28 hi hz0 hz1 hz2 rfl (.slice none 0 0) 0 [] rfl (World.ownsRow_nil _ _ _ _) _ xs.length (bytesV xs) rfl hsrc (by unfold maxLen; omega) (by omega) (Nat.le_refl _) ?_)
  intro v' w1 hown1 hgr hat
  go_wp2
  go_ret
  refine ⟨_, rfl, by simpa using hown1, (Below.refl _ _).grown hgr (Nat.le_refl _) (fun k hk => ?_)⟩
  simp [Value.ownBlock] at hk
theorem NewWriter_any (w : World) : Calls Tryz.prog 65 #[] w fun e w' => e = .returned (.pointer (some ⟨w.heap.size, 0, none⟩)) ∧ w.alloc (.cells #[.slice none 0 0] 153) = w' := by
  go_enter Tryz.func65, Tryz.ntmps65
  go_wp2
  go_ret
  exact ⟨rfl, rfl⟩
theorem Wr.new (w : World) : Wr (w.alloc (.cells #[.slice none 0 0] 153)) w.heap.size (.slice none 0 0) [] := ⟨Whole.new _ _ _, World.ownsRow_nil _ _ _ _⟩
/-- What Bytes hands back: a row of its own. -/
def OwnPost (w : World) (xs : List UInt8) (e : Ending) (w' : World) : Prop := ∃ v, e = .returned v ∧ w'.ownsRow w.heap.size 5 1 v xs.length (bytesV xs) ∧ Below w.heap.size w w'
theorem WBytes_any (g : Nat) (v : Value) (xs : List UInt8) (w : World) (h : Wr w g v xs) (hb : xs.length ≤ 140737488355328) :
    Calls Tryz.prog 69 #[.pointer (some ⟨g, 0, none⟩)] w (OwnPost w xs) := by
  have hc0 : w.cell? ⟨g, 0, none⟩ = some v := by simpa using h.1.cell 0
  obtain ⟨A, cp, hv, -, -⟩ := own_slice h.2
  subst hv
  have hl := Lies.of_own h.2
  have H := Lib.hid hl
  clear hl
  go_enter Tryz.func69, Tryz.ntmps69
  go_wp2_with (go_at_call 70; refine (own_any _ _ _ _ H.out hb).mono ?_; rintro e w' ⟨v, rfl, h1, h2⟩)
  go_ret
  exact ⟨_, rfl, h1, h2⟩
set_option maxHeartbeats 800000 in
theorem WRaw_any (g : Nat) (v : Value) (xs ys : List UInt8) (A : Option Addr) (c : Nat) (w : World) (h : Wr w g v xs) (hy : Lies w A (bytesV ys)) (hb : xs.length + ys.length ≤ 140737488355328) :
    Calls Tryz.prog 66 #[.pointer (some ⟨g, 0, none⟩), .slice A ys.length c] w (WPost w g v (xs ++ ys)) := by
  have hown := h.2
  have hc0 : w.cell? ⟨g, 0, none⟩ = some v := by simpa using h.1.cell 0
  have hf0 := h.1.frozen 0
  obtain ⟨B, cp, hv, -, -⟩ := own_slice hown
  subst hv
  obtain ⟨i0, hi, hz0, hz1, hz2⟩ := info_parts info_u8
  have hsrc := hy.src Tryz.underlying28 (bytesV_one ys) c
  rw [bytesV_length] at hsrc
  go_enter Tryz.func66, Tryz.ntmps66
  go_wp2_with (at_builtin; refine wpList_append_row _ rfl (.tmp 10) (.tmp 11) 28 28 rfl 0 5 i0 (.int .u8 0) 1 1 Tryz.underlying28 hi hz0 hz1 hz2 rfl _ xs.length (bytesV xs) rfl hown _ ys.length (bytesV ys) rfl hsrc (by unfold maxLen; omega) (by omega) (Nat.zero_le _) ?_)
  intro v' w1 hown1 hgr hat
  obtain ⟨hk, hkf⟩ := wr_cell h (Below.refl _ _) hgr
  obtain ⟨A', cp', hv', -, -⟩ := own_slice hown1
  subst hv'
  go_wp2
  go_end0
  exact ⟨rfl, wr_close h (Below.refl _ _) hown1 hgr (hat.imp id fun e => ⟨_, e, by omega⟩)⟩
/-- The first k of the bytes of n as size bytes, the highest first. -/
def hiB (n : Int) (size k : Nat) : List UInt8 := (List.range k).map fun j => toB (n / 2 ^ (8 * (size - 1 - j)) % 256)
theorem hiB_length (n : Int) (size k : Nat) : (hiB n size k).length = k := by simp [hiB]
theorem hiB_succ (n : Int) (size k : Nat) : hiB n size (k + 1) = hiB n size k ++ [toB (n / 2 ^ (8 * (size - 1 - k)) % 256)] := by
  simp [hiB, List.range_succ]
set_option maxHeartbeats 800000 in
theorem layHi_any (g : Nat) (v : Value) (xs : List UInt8) (n : Int) (size : Nat) (w : World) (h : Wr w g v xs) (h0 : 0 ≤ n) (h1 : n < 18446744073709551616) (hs : size ≤ 8) (hb : xs.length + 8 ≤ 140737488355328) :
    Calls Tryz.prog 96 #[.func (.func 97) #[.pointer (some ⟨g, 0, none⟩)] #[], .int .u64 n, .int .i64 size] w (WPost w g v (xs ++ hiB n size size)) := by
  go_enter Tryz.func96, Tryz.ntmps96
  go_wp2_with fail
  go_loopw [6, 8] (fun _ i wr => ∃ k : Nat, k ≤ size ∧ i = .int .i64 k ∧ WTo w g v (xs ++ hiB n size k) wr) (fun _ i _ => size - (intOf i).toNat)
  case atStart => exact ⟨0, Nat.zero_le _, rfl, _, by simpa [hiB] using h, WSt.refl _ _ _⟩
  case round =>
    obtain ⟨k, hk, rfl, hw⟩ := hrel
    by_cases hlt : k < size
    · obtain ⟨v1, hw1, hs1⟩ := hw
      have hl : (xs ++ hiB n size k).length + 1 ≤ 140737488355328 := by rw [List.length_append, hiB_length]; omega
      have HS := Lib.hid (hiB_succ n size k)
      go_wp2_with (go_at_call 97; refine (WByte_any g v1 _ _ _ hw1 (by omega) (by omega) hl).mono ?_; rintro e w' ⟨rfl, v2, hw2, hs2⟩)
      go_roundw
      case rel => exact ⟨k + 1, by omega, by go_num, v2, by rw [HS.out, ← List.append_assoc]; exact hw2, hs1.trans hs2⟩
      case measure => simp [intOf]; omega
    · obtain rfl : k = size := by omega
      go_wp2_with fail
      go_end0
      exact ⟨rfl, hw⟩
theorem WU32_any (g : Nat) (v : Value) (xs : List UInt8) (n : Int) (w : World) (h : Wr w g v xs) (h0 : 0 ≤ n) (h1 : n < 4294967296) (hb : xs.length + 8 ≤ 140737488355328) :
    Calls Tryz.prog 67 #[.pointer (some ⟨g, 0, none⟩), .int .u32 n] w (WPost w g v (xs ++ hiB n 4 4)) := by
  have hmf : ∀ (fn : Fn) (first cap : Array Value) (w : World), (Instr.makeFunc fn first cap).run Tryz.prog w = .ok (.func fn first cap) w := fun _ _ _ _ => rfl
  have hc : Calls Tryz.prog 96 #[.func (.func 97) #[.pointer (some ⟨g, 0, none⟩)] #[], .int .u64 n, .int .i64 4] w (WPost w g v (xs ++ hiB n 4 4)) := layHi_any g v xs n 4 w h h0 (by omega) (by omega) hb
  have HC := Lib.hid hc
  clear hc
  go_enter Tryz.func67, Tryz.ntmps67
  go_wp2_with (go_at_call 96; refine HC.out.mono ?_; rintro e w' ⟨rfl, hw⟩)
  go_end0
  exact ⟨rfl, hw⟩
end Go.Proofs.YtgbhdjncccmabaaGreatDoor
/- What is proved: Same tells whether two slices of bytes hold the same bytes; works answers true; bytes become a string. Conditions: the slices' cells are there. -/
namespace Go.Proofs.YtgbhdjncccmabaaGreatDoor
open Go.RowKit
set_option linter.unusedVariables false
/-- Bytes as a string's bytes. -/
def strB (xs : List UInt8) : ByteArray := ⟨xs.toArray⟩
theorem strB_list (xs : List UInt8) : (strB xs).toList = xs := ByteArray.toList_mk xs
theorem bytesV_nums (xs : List UInt8) : bytesV xs = (xs.map fun b => (b.toNat : Int)).map (Value.int .u8) := by simp [bytesV, byteV]
theorem run_convert_lies {P : Program} {w : World} {A : Option Addr} {xs : List UInt8} (src dst e : TypeId) (hs : P.underlying src = some (.slice e)) (he : P.underlying e = some (.int .u8)) (hd : P.underlying dst = some .string)
    (h : Lies w A (bytesV xs)) (c : Nat) : (convert src dst (.slice A xs.length c)).run P w = .ok (.string (strB xs)) w := by
  rcases A with _ | ad
  · have h0 : xs = [] := by
      rcases h with h | ⟨b, o, h, _⟩
      · simpa [bytesV] using h
      · cases h
    subst h0
    exact run_convert_bytes_nil w src e hs he 0 c dst hd
  · have hl : (loadCells ad xs.length).run P w = .ok (bytesV xs).toArray w := by
      have := run_loadCells_list (P := P) w ad (bytesV xs) (fun j v hj => by
        rcases h with h | ⟨b, o, h, hc⟩
        · rw [h] at hj; simp at hj
        · injection h with h
          subst h
          rw [add_off]
          exact hc j v hj)
      rwa [bytesV_length] at this
    rw [bytesV_nums] at hl
    rw [run_convert_bytes_string w src dst e _ _ c hs he hd, run_bytesToString w _ _ c (xs.map fun b => (b.toNat : Int)) hl, foldl_push_bytes]
    have hm : ((xs.map fun b => (b.toNat : Int)).map fun n => UInt8.ofNat n.toNat) = xs := by
      rw [List.map_map]
      conv => rhs; rw [← List.map_id xs]
      apply List.map_congr_left
      intro b _
      simp
    rw [hm]
    simp [strB, ByteArray.empty, ByteArray.emptyWithCapacity]
    rfl
set_option maxHeartbeats 800000 in
theorem Same_any (A B : Option Addr) (c d : Nat) (xs ys : List UInt8) (w : World) (ha : Lies w A (bytesV xs)) (hb : Lies w B (bytesV ys)) :
    Calls Tryz.prog 29 #[.slice A xs.length c, .slice B ys.length d] w fun e w' => e = .returned (.bool (xs == ys)) ∧ w = w' := by
  have e1 := run_convert_lies 28 9 5 Tryz.underlying28 Tryz.underlying5 Tryz.underlying9 ha c
  have e2 := run_convert_lies 28 9 5 Tryz.underlying28 Tryz.underlying5 Tryz.underlying9 hb d
  clear ha hb
  go_enter Tryz.func29, Tryz.ntmps29
  go_wp2
  go_ret
  exact ⟨ret_bool (by show ((strB xs).toList == (strB ys).toList) = _; rw [strB_list, strB_list]), rfl⟩
theorem Same_n (A B : Option Addr) (c d N M : Nat) (xs ys : List UInt8) (w : World) (hN : xs.length = N) (hM : ys.length = M) (ha : Lies w A (bytesV xs)) (hb : Lies w B (bytesV ys)) :
    Calls Tryz.prog 29 #[.slice A N c, .slice B M d] w fun e w' => e = .returned (.bool (xs == ys)) ∧ w = w' := by
  subst hN; subst hM
  exact Same_any A B c d xs ys w ha hb
theorem own_lies {w : World} {base : Nat} {v : Value} {xs : List UInt8} (h : w.ownsRow base 5 1 v xs.length (bytesV xs)) : ∃ A c, v = .slice A xs.length c ∧ xs.length ≤ c ∧ Lies w A (bytesV xs) ∧ ∀ ad, A = some ad → v.ownBlock = some ad.block := by
  obtain ⟨A, c, hv, hc, _⟩ := own_slice h
  subst hv
  exact ⟨A, c, rfl, hc, Lies.of_own h, fun ad e => by subst e; rfl⟩
end Go.Proofs.YtgbhdjncccmabaaGreatDoor

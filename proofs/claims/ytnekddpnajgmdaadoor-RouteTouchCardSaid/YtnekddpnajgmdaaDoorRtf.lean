/- What is proved: a text's parts, by the program. Conditions: the text is not too long for any machine. -/
import Derived.Test.YtnekddpnajgmdaaDoorRte
import Derived.Laws.OwnMore
namespace Go.Proofs.YtnekddpnajgmdaaDoor
open Go.RowKit
set_option linter.unusedVariables false

/-- Texts as cells. -/
def strV (ps : List (List UInt8)) : List Value := ps.map fun p => .string (strB p)
theorem strV_len (ps : List (List UInt8)) : (strV ps).length = ps.length := by simp [strV]
theorem strV_append (a b : List (List UInt8)) : strV (a ++ b) = strV a ++ strV b := by simp [strV]
theorem strV_get (ps : List (List UInt8)) (k : Nat) (h : k < ps.length) : (strV ps)[k]? = some (.string (strB (ps.getD k []))) := by
  rw [strV, List.getElem?_map, List.getElem?_eq_getElem h, List.getD_eq_getElem?_getD, List.getElem?_eq_getElem h]
  rfl
theorem strV_one (ps : List (List UInt8)) : ∀ v ∈ strV ps, v.oneCell' = true := by
  intro v hv
  obtain ⟨p, _, rfl⟩ := List.mem_map.1 hv
  rfl

theorem info_parts {P : Program} {t : TypeId} {z : Value} {s b : Nat} (h : (P.info? t).map (fun i => (i.zero, i.size, i.bytes)) = some (some z, s, b)) : ∃ i, P.info? t = some i ∧ i.zero = some z ∧ i.size = s ∧ i.bytes = b := by
  cases hq : P.info? t with
  | none => simp [hq] at h
  | some i =>
    simp [hq] at h
    exact ⟨i, rfl, h.1, h.2.1, h.2.2⟩
theorem info_str : (Tryd.prog.info? 9).map (fun i => (i.zero, i.size, i.bytes)) = some (some (.string (strB [])), 1, 16) := by kernel_rfl
theorem make_strs (n : Nat) (hn : n ≤ 1000000) (w : World) : (Instr.makeSlice 25 (.int .i64 n) (.int .i64 n)).run Tryd.prog w =
    .ok (.slice (some ⟨w.heap.size, 0, none⟩) n n) (w.alloc (.cells (strV (List.replicate n [])).toArray 9)) := by
  obtain ⟨i0, hi, hz0, hz1, hz2⟩ := info_parts info_str
  have h := run_make (P := Tryd.prog) w 25 9 i0 (.string (strB [])) Tryd.underlying25 hi hz0 .i64 .i64 n n (by omega) (by omega) (by rw [hz2]; omega) (by omega)
  rw [Int.toNat_natCast, hz1, Nat.mul_one] at h
  have e2 : madeCells (Value.string (strB [])).cells n = (strV (List.replicate n [])).toArray := by
    apply Array.toList_inj.1
    show (madeCells #[Value.string (strB [])] n).toList = _
    rw [toList_madeCells_one]
    simp [strV]
  rw [e2] at h
  exact h

set_option maxHeartbeats 1000000 in
set_option maxRecDepth 100000 in
theorem GCount_any (l : List UInt8) (w : World) : Calls Tryd.prog 64 #[.string (strB l), .string (strB [47])] w fun e w' => e = .returned (.int .i64 (l.count 47 : Nat)) ∧ w = w' := by
  have hr := fun w => Lib.run_countString (P := Tryd.prog) (strB l) 47 w
  rw [strB_data] at hr
  have he : Lib.countByte l (Int.toNat 47).toUInt8 = l.count 47 := rfl
  rw [he] at hr
  have hsz : (strB [47]).size = 1 := rfl
  have hix : ∀ w, (Instr.index 9 (.string (strB [47])) (.int .i64 0)).run Tryd.prog w = .ok (.int .u8 47) w := fun w => index_str (P := Tryd.prog) w Tryd.underlying9 [47] 0 (by decide)
  obtain ⟨S, hS⟩ : ∃ S, strB [47] = S := ⟨_, rfl⟩
  obtain ⟨T, hT⟩ : ∃ S, strB l = S := ⟨_, rfl⟩
  obtain ⟨c, hc⟩ : ∃ c : Int, ((l.count 47 : Nat) : Int) = c := ⟨_, rfl⟩
  rw [hS] at hix hsz ⊢
  rw [hT, hc] at hr
  rw [hT, hc]
  have HR := Lib.hid hr
  clear hS hT hr he hc
  go_enter Tryd.func64, Tryd.ntmps64
  go_wp2
  rw [run_callFunc_extern Tryd.func73 (by kernel_rfl) (by kernel_rfl) (by kernel_rfl) (e := Extern.BytealgCount.count) (by kernel_rfl), HR.out]
  simp only [Result.andThen]
  rw [Oper.upon_value]
  go_wp2
  go_ret
  exact ⟨rfl, rfl⟩

/-- What stands at the head of a round of the split: some parts, and the text behind them. -/
structure SpRel (w : World) (l : List UInt8) (i : Nat) (rest : List UInt8) (wr : World) : Prop where
  row : ∃ done, done.length = i ∧ spl l = done ++ spl rest ∧ Whole wr w.heap.size 9 (strV (done ++ List.replicate ((spl l).length - i) [])).toArray
  fr : Fr (fun _ => False) w wr
  sub : rest.length ≤ l.length
theorem SpRel.len {w : World} {l : List UInt8} {i : Nat} {rest : List UInt8} {wr : World} (h : SpRel w l i rest wr) : (spl l).length = i + (spl rest).length := by
  obtain ⟨done, h1, h2, _⟩ := h.row
  rw [h2, List.length_append, h1]
theorem SpRel.pos {w : World} {l : List UInt8} {i : Nat} {rest : List UInt8} {wr : World} (h : SpRel w l i rest wr) : i < (spl l).length := by
  have := h.len
  have := List.length_pos_iff.2 (spl_ne rest)
  omega
theorem SpRel.cell {w : World} {l : List UInt8} {i : Nat} {rest : List UInt8} {wr : World} (h : SpRel w l i rest wr) : ∃ u, wr.cell? ⟨w.heap.size, i, none⟩ = some u := by
  have hp := h.pos
  obtain ⟨done, h1, h2, h3⟩ := h.row
  rw [h3.cell, List.getElem?_toArray]
  exact ⟨_, strV_get _ _ (by rw [List.length_append, List.length_replicate]; omega)⟩
theorem SpRel.frozen {w : World} {l : List UInt8} {i : Nat} {rest : List UInt8} {wr : World} (h : SpRel w l i rest wr) : wr.frozen? ⟨w.heap.size, i, none⟩ = false := by
  obtain ⟨done, h1, h2, h3⟩ := h.row
  exact h3.frozen i
theorem set_str (done : List (List UInt8)) (n : Nat) (p : List UInt8) (hn : 0 < n) : (strV (done ++ List.replicate n [])).toArray.setIfInBounds done.length (.string (strB p)) = (strV (done ++ [p] ++ List.replicate (n - 1) [])).toArray := by
  obtain ⟨m, rfl⟩ : ∃ m, n = m + 1 := ⟨n - 1, by omega⟩
  apply Array.toList_inj.1
  simp only [Array.toList_setIfInBounds]
  rw [List.replicate_succ, strV_append, List.set_append_right _ _ (by rw [strV_len]; exact Nat.le_refl _), strV_len, Nat.sub_self]
  simp [strV]
theorem SpRel.put {w : World} {l : List UInt8} {i : Nat} {rest : List UInt8} {wr : World} (h : SpRel w l i rest wr) (m : Nat) (he : rest = rest.take m ++ 47 :: rest.drop (m + 1)) (hm : ∀ b ∈ rest.take m, b ≠ 47) :
    SpRel w l (i + 1) (rest.drop (m + 1)) (wr.setCell ⟨w.heap.size, i, none⟩ (.string (strB (rest.take m)))) := by
  have hp := h.pos
  obtain ⟨done, h1, h2, h3⟩ := h.row
  refine ⟨⟨done ++ [rest.take m], by simp [h1], ?_, ?_⟩, h.fr.setCell (fun e => absurd e (Nat.lt_irrefl _)) _, by have := h.sub; rw [List.length_drop]; omega⟩
  · rw [h2]
    conv => lhs; rw [he, spl_head _ _ hm]
    simp
  · have := h3.set i (.string (strB (rest.take m)))
    rw [← h1, set_str done _ _ (by omega), h1] at this
    rwa [show (spl l).length - i - 1 = (spl l).length - (i + 1) by omega] at this
theorem SpRel.last {w : World} {l : List UInt8} {i : Nat} {rest : List UInt8} {wr : World} (h : SpRel w l i rest wr) (hi : i + 1 = (spl l).length) :
    Whole (wr.setCell ⟨w.heap.size, i, none⟩ (.string (strB rest))) w.heap.size 9 (strV (spl l)).toArray ∧ Below w.heap.size w (wr.setCell ⟨w.heap.size, i, none⟩ (.string (strB rest))) := by
  have hlen := h.len
  obtain ⟨done, h1, h2, h3⟩ := h.row
  refine ⟨?_, (h.fr.setCell (p := ⟨w.heap.size, i, none⟩) (fun e => absurd e (Nat.lt_irrefl _)) _).below (fun _ _ e => e)⟩
  have h4 : ∀ b ∈ rest, b ≠ 47 := fun b hb e => by
    have hc := spl_count rest
    have : 0 < rest.count 47 := List.count_pos_iff.2 (e ▸ hb)
    omega
  have := h3.set i (.string (strB rest))
  rw [← h1, set_str done _ _ (by omega), h1, show (spl l).length - i - 1 = 0 by omega, List.replicate_zero, List.append_nil] at this
  rwa [← spl_plain rest h4, ← h2] at this

set_option maxHeartbeats 1600000 in
theorem GgenSplit_any (l : List UInt8) (hl : l.length ≤ 900000) (w : World) : Calls Tryd.prog 54 #[.string (strB l), .string (strB [47]), .int .i64 0, .int .i64 (-1)] w fun e w' =>
    e = .returned (.slice (some ⟨w.heap.size, 0, none⟩) (spl l).length (spl l).length) ∧ Whole w' w.heap.size 9 (strV (spl l)).toArray ∧ Below w.heap.size w w' := by
  have hcnt := fun w => GCount_any l w
  have hsc := spl_count l
  have hcl := List.count_le_length (a := (47 : UInt8)) (l := l)
  have hmk := fun w => make_strs (spl l).length (by omega) w
  have hidx := Lib.hid (fun r w => GIndex_any r w)
  have hcs := Lib.hid idx_cases
  have HT := Lib.hid (fun r m h w => slice_to (P := Tryd.prog) w Tryd.underlying9 r m h)
  have HF := Lib.hid (fun r m h w => slice_from (P := Tryd.prog) w Tryd.underlying9 r m h)
  have hR : SpRel w l 0 l (w.alloc (.cells (strV (List.replicate (spl l).length [])).toArray 9)) :=
    ⟨⟨[], rfl, rfl, by rw [List.nil_append]; exact Whole.new w 9 _⟩, (Fr.refl _ w).alloc _, Nat.le_refl _⟩
  have hsz := strB_size l
  have hss : (strB [47]).size = 1 := rfl
  have hne : (strB [47]).toList = [47] := strB_list _
  obtain ⟨n, hn⟩ : ∃ n, (spl l).length = n := ⟨_, rfl⟩
  have HNn := Lib.hid hn
  obtain ⟨K, hK⟩ : ∃ n, l.length = n := ⟨_, rfl⟩
  have HKn := Lib.hid hK
  rw [hn] at hmk hR hsc ⊢
  obtain ⟨Z, hZ⟩ : ∃ Z, (strV (List.replicate n [])).toArray = Z := ⟨_, rfl⟩
  rw [hZ] at hmk hR
  obtain ⟨c, hc⟩ : ∃ c, l.count 47 = c := ⟨_, rfl⟩
  rw [hc] at hcnt hsc hcl
  obtain ⟨S, hS⟩ : ∃ S, strB [47] = S := ⟨_, rfl⟩
  rw [hS] at hidx hcnt hss hne ⊢
  obtain ⟨T, hT⟩ : ∃ S, strB l = S := ⟨_, rfl⟩
  rw [hT] at hcnt hsz ⊢
  rw [hK] at hsz hcl hl
  subst hsc
  have HR := Lib.hid hR
  have HM := Lib.hid hmk
  have HC := Lib.hid hcnt
  have HS := Lib.hid hT
  clear hn hZ hc hS hT hK hR hmk hcnt
  have hmk := fun w => HM.out w
  rw [Int.natCast_add, Int.natCast_one] at hmk
  have hmin : min ((c : Int) + 1) ((K : Int) + 1) = (c : Int) + 1 := by omega
  go_enter Tryd.func54, Tryd.ntmps54
  go_wp2_with (go_at_call 64; refine (HC.out _).mono ?_; rintro e w' ⟨rfl, rfl⟩)
  clear hmk hmin
  go_loopw [0, 10] (fun s i wr => ∃ (k : Nat) (rest : List UInt8), k ≤ c ∧ s = .string (strB rest) ∧ i = .int .i64 k ∧ SpRel w l k rest wr) (fun _ i _ => c - (intOf i).toNat)
  case atStart => exact ⟨0, l, by omega, by rw [HS.out], rfl, HR.out⟩
  case round =>
    obtain ⟨k, rest, hk, rfl, rfl, hr⟩ := hrel
    obtain ⟨u, c1⟩ := hr.cell
    have f1 := hr.frozen
    have hlen := hr.len
    rw [HNn.out, spl_count] at hlen
    have HRR := Lib.hid hr
    clear hr
    by_cases hlt : k < c
    · rcases hcs.out rest with ⟨_, h2⟩ | ⟨m, h1, h2, h3, h4⟩
      · exfalso
        have : 0 < rest.count 47 := by omega
        exact h2 47 (List.count_pos_iff.1 this) rfl
      · have hid := hidx.out rest
        rw [h1] at hid
        have ht := HT.out rest m (by omega)
        have hf := HF.out rest (m + 1) (by omega)
        rw [Int.natCast_add, Int.natCast_one] at hf
        have HNX := Lib.hid (HRR.out.put m h3 h4)
        obtain ⟨A, hA⟩ : ∃ A, strB (rest.take m) = A := ⟨_, rfl⟩
        obtain ⟨B, hB⟩ : ∃ B, rest.drop (m + 1) = B := ⟨_, rfl⟩
        obtain ⟨R, hR⟩ : ∃ A, strB rest = A := ⟨_, rfl⟩
        obtain ⟨D, hD⟩ : ∃ A, strB B = A := ⟨_, rfl⟩
        have HD := Lib.hid hD
        rw [hA] at ht HNX
        rw [hB] at hf HNX
        rw [hD] at hf
        rw [hR] at hid ht hf ⊢
        have hsub := HRR.out.sub
        rw [HKn.out] at hsub
        obtain ⟨z, hz⟩ : ∃ z : Int, ((m : Nat) : Int) = z := ⟨_, rfl⟩
        have z0 : 0 ≤ z := by omega
        have z1 : z ≤ 900000 := by omega
        rw [hz] at hid ht hf
        have HI := Lib.hid hid
        clear hA hB hR hD h1 h2 h3 h4 hid hlen hsub hz
        go_wp2_with (go_at_call 51; refine (HI.out _).mono ?_; rintro e w' ⟨rfl, rfl⟩)
        go_roundw
        case rel => exact ⟨k + 1, B, by omega, by rw [HD.out], by go_num, HNX.out⟩
        case measure => simp [intOf]; omega
    · obtain rfl : k = c := by omega
      have HL := Lib.hid (HRR.out.last (by rw [HNn.out]))
      obtain ⟨R, hR⟩ : ∃ A, strB rest = A := ⟨_, rfl⟩
      rw [hR] at HL ⊢
      clear hR hlen
      go_wp2_with fail
      go_ret
      exact ⟨rfl, HL.out⟩
end Go.Proofs.YtnekddpnajgmdaaDoor

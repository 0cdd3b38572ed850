/- What is proved: Same tells whether two slices of bytes hold the same bytes; works, the example of the laws, is true. Conditions: the slices' cells are there; the library's table lies as its text lays it. -/
import Derived.Test.YtppddpbacpeadaaDoorRvl
namespace Go.Proofs.YtppddpbacpeadaaDoor
open Go.RowKit Go.Sort Go.Shelf
open Ids (idC dgt big idC_size idC_get idC_one cellD zero32 size32 dgt_lt hexB)
set_option linter.unusedVariables false

theorem bytesV_nums (xs : List UInt8) : bytesV xs = (xs.map fun b => (b.toNat : Int)).map (Value.int .u8) := by simp [bytesV, byteV]
theorem run_convert_lies {P : Program} {w : World} {A : Option Addr} {xs : List UInt8} (src dst e : TypeId) (hs : P.underlying src = some (.slice e)) (he : P.underlying e = some (.int .u8)) (hd : P.underlying dst = some .string)
    (h : Lies w A (bytesV xs)) (c : Nat) : (convert src dst (.slice A xs.length c)).run P w = .ok (.string (strB xs)) w := by
  rcases A with _ | ad
  · have h0 : xs = [] := by
      rcases h with h | ⟨b, o, h, _⟩
      · simpa [bytesV] using h
      · cases h
    subst h0
    exact run_convert_bytes_nil w src e hs he 0 c dst hd
  · have hl : (loadCells ad xs.length).run P w = .ok (bytesV xs).toArray w := by
      have := run_loadCells_list (P := P) w ad (bytesV xs) (fun j v hj => by
        rcases h with h | ⟨b, o, h, hc⟩
        · rw [h] at hj; simp at hj
        · injection h with h
          subst h
          rw [add_off]
          exact hc j v hj)
      rwa [bytesV_length] at this
    rw [bytesV_nums] at hl
    rw [run_convert_bytes_string w src dst e _ _ c hs he hd, run_bytesToString w _ _ c (xs.map fun b => (b.toNat : Int)) hl, foldl_push_bytes]
    have hm : ((xs.map fun b => (b.toNat : Int)).map fun n => UInt8.ofNat n.toNat) = xs := by
      rw [List.map_map]
      conv => rhs; rw [← List.map_id xs]
      apply List.map_congr_left
      intro b _
      simp
    rw [hm]
    simp [strB, ByteArray.empty, ByteArray.emptyWithCapacity]
    rfl

set_option maxHeartbeats 800000 in
theorem Same_any (A B : Option Addr) (c d : Nat) (xs ys : List UInt8) (w : World) (ha : Lies w A (bytesV xs)) (hb : Lies w B (bytesV ys)) :
    Calls Tryd.prog 12 #[.slice A xs.length c, .slice B ys.length d] w fun e w' => e = .returned (.bool (xs == ys)) ∧ w = w' := by
  have e1 := run_convert_lies 27 9 5 Tryd.underlying27 Tryd.underlying5 Tryd.underlying9 ha c
  have e2 := run_convert_lies 27 9 5 Tryd.underlying27 Tryd.underlying5 Tryd.underlying9 hb d
  clear ha hb
  go_enter Tryd.func12, Tryd.ntmps12
  go_wp2
  go_ret
  exact ⟨ret_bool (by show ((strB xs).toList == (strB ys).toList) = _; rw [strB_list, strB_list]), rfl⟩

theorem wpList_build_to {P : Program} {ops : Array Oper} {rest : List Oper} {o : Oper} {a : Act} {w : World} {Q : Exit → Act → World → Prop} (hgd : o.guard = none) (t : TypeId) (parts : Array (Nat × Operand)) (ho : o.op = .build t parts)
    (vals : Array (Nat × Value)) (hvals : (parts.map fun (i, x) => (i, a.eval x)) = vals) (v : Value) (hv : (Instr.build t vals).run P w = .ok v w) (h : wpList P ops Q rest (a.put o.dst v) w) : wpList P ops Q (o :: rest) a w :=
  wpList_plain hgd fun K hK => by
    unfold Oper.wp execOp
    simp only [ho, hvals, Sem.run_bind, hv, Result.andThen_ok, Sem.run_pure]
    exact hK _ _ h

/-! The example. -/
def exB : List UInt8 := [97, 117, 116, 104, 111, 114, 32, 97, 110, 110, 10, 116, 105, 109, 101, 32, 53, 10, 10, 120]
theorem ex_dig : digS 5 = [53] := by
  rw [digS, if_neg (by decide), show (5 : Int).toNat = 5 from rfl, Lib.decDigits_one (by decide)]
  rfl
theorem ex_chk : chkE [] [97, 110, 110] 5 [120] = 0 := by decide
theorem ex_put : putR 0 [] [97, 110, 110] 5 [120] = lineB wTree (hexI 0) ++ exB := by
  rw [putR, if_pos ex_chk, revB, ex_dig]
  simp [parB, lineB, wAuthor, wTime, exB]
theorem ex_len : (lineB wTree (hexI 0)).length = 70 := by rw [lineB_len, hexI_len]; rfl
theorem ex_build (w : World) : (Instr.build 26 #[(2, .string ⟨#[97, 110, 110]⟩), (3, .int .i64 5), (4, .string ⟨#[120]⟩)]).run Tryd.prog w = .ok (.agg (revC 0 (.slice none 0 0) [97, 110, 110] 5 [120])) w := by kernel_rfl
theorem Lies.dropB {w : World} {b o : Nat} {l : List UInt8} (h : Lies w (some ⟨b, o, none⟩) (bytesV l)) (m : Nat) : Lies w (some ⟨b, o + m, none⟩) (bytesV (l.drop m)) := by
  rcases h with h | ⟨b', o', hA, hc⟩
  · left
    have hl : l = [] := by
      cases l with
      | nil => rfl
      | cons x l => simp [bytesV] at h
    subst hl
    simp [bytesV]
  · cases hA
    refine .inr ⟨b, o + m, rfl, fun j u hu => ?_⟩
    rw [Nat.add_assoc]
    refine hc _ _ ?_
    rw [bytesV, List.getElem?_map] at hu ⊢
    rwa [List.getElem?_drop] at hu
theorem slice_offB (b o n c m : Nat) (h : m ≤ n) (hc : n ≤ c) (hm : m ≠ c) (w : World) : (Instr.slice 27 (.slice (some ⟨b, o, none⟩) n c) (some (.int .i64 m)) none none).run Tryd.prog w = .ok (.slice (some ⟨b, o + m, none⟩) (n - m) (c - m)) w := by
  have hs : (sizeOf (Tryd.prog.elem 27)).run Tryd.prog w = .ok 1 w := by kernel_rfl
  have ht : Tryd.prog.underlying 27 = some (.slice (Tryd.prog.elem 27)) := by kernel_rfl
  have e := run_slice_l (P := Tryd.prog) w 27 (some ⟨b, o, none⟩) n c ht .i64 (m : Int) (by omega) (by omega)
  rw [e, hs]
  simp only [sliced, Int.toNat_natCast, Result.andThen_ok]
  simp [add_off]
  omega
theorem Lies.someB {w : World} {A : Option Addr} {l : List UInt8} (h : Lies w A (bytesV l)) (hn : 0 < l.length) : ∃ b o, A = some ⟨b, o, none⟩ := by
  rcases h with h | ⟨b, o, rfl, _⟩
  · have := bytesV_length l
    rw [h] at this
    simp at this
    omega
  · exact ⟨b, o, rfl⟩
set_option maxHeartbeats 3200000 in
set_option maxRecDepth 100000 in
theorem works7_any (w : World) (hT : Tab10 w) : Calls Tryd.prog 17 #[] w fun e w' => e = .returned (.bool true) ∧ Below w.heap.size w w' := by
  have hp := VPut_any 0 none 0 [] [97, 110, 110] 5 [120] (by decide) (by simp) (by decide) (by decide) w (.inl rfl) hT
  rw [ex_chk, ex_put] at hp
  have hb := ex_build
  have hl : (lineB wTree (hexI 0) ++ exB).length = 90 := by rw [List.length_append, ex_len]; rfl
  have hd : (lineB wTree (hexI 0) ++ exB).drop 70 = exB := by rw [List.drop_append, ex_len, List.drop_of_length_le (by rw [ex_len]; exact Nat.le_refl _)]; rfl
  obtain ⟨X, hX⟩ : ∃ X, lineB wTree (hexI 0) ++ exB = X := ⟨_, rfl⟩
  rw [hX] at hp hl hd
  rw [List.length_nil] at hp
  obtain ⟨cs, hcs⟩ : ∃ c, revC 0 (.slice none 0 0) [97, 110, 110] 5 [120] = c := ⟨_, rfl⟩
  rw [hcs] at hp hb
  have HP := Lib.hid hp
  have HB := Lib.hid hb
  have HL := Lib.hid hl
  have HD := Lib.hid hd
  obtain ⟨S, hS⟩ : ∃ S, strB exB = S := ⟨_, rfl⟩
  have hSc : ByteArray.mk #[97, 117, 116, 104, 111, 114, 32, 97, 110, 110, 10, 116, 105, 109, 101, 32, 53, 10, 10, 120] = S := hS
  have HSS := Lib.hid hS
  clear hp hb hl hd hX hcs hS
  go_enter Tryd.func17, Tryd.ntmps17
  go_wp2_with (first
    | (refine wpList_build_to rfl 26 _ rfl #[(2, .string ⟨#[97, 110, 110]⟩), (3, .int .i64 5), (4, .string ⟨#[120]⟩)] (by first | rfl | simp [Act.eval]) (.agg cs) (HB.out _) ?_)
    | (go_at_call 8
       refine HP.out.mono ?_
       rintro e w2 ⟨v, rfl, ho⟩
       obtain ⟨A, c, rfl, hlc, hli, hA, hcm⟩ := ho.slice
       rw [HL.out] at hlc
       obtain ⟨b, o, rfl⟩ := hli.someB (by rw [HL.out]; decide)
       have hd70 := hli.dropB 70
       rw [HD.out] at hd70
       have e1 : ∀ w, (Instr.slice 27 (.slice (some ⟨b, o, none⟩) 90 c) (some (.int .i64 70)) none none).run Tryd.prog w = .ok (.slice (some ⟨b, o + 70, none⟩) 20 (c - 70)) w := fun w => slice_offB b o 90 c 70 (by decide) hlc (by omega) w
       have e2 : (convert 27 9 (.slice (some ⟨b, o + 70, none⟩) 20 (c - 70))).run Tryd.prog w2 = .ok (.string S) w2 := by
         have := run_convert_lies 27 9 5 Tryd.underlying27 Tryd.underlying5 Tryd.underlying9 hd70 (c - 70)
         rw [HSS.out] at this
         exact this
       have HFo := Lib.hid ho.2
       have hle : X.length = 90 := HL.out
       clear ho hli hd70 hA hcm
       rw [hle]
       clear hle))
  go_ret
  exact ⟨rfl, HFo.out.below (fun _ _ e => e)⟩
end Go.Proofs.YtppddpbacpeadaaDoor

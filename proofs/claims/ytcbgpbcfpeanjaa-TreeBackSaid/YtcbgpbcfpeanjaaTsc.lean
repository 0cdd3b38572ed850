/- What is proved: the entry that bytes begin with, by the program. Conditions: the bytes' cells are there, one at least. -/
import Derived.Test.YtcbgpbcfpeanjaaTsb
import Derived.OrdersHeld
namespace Go.Proofs.Ytcbgpbcfpeanjaa
open Go.RowKit Go.Sort Go.Shelf
set_option linter.unusedVariables false

theorem results_cell_slots {P : Program} {fn : Func} {p u v : Tmp} {ty : TypeId} (h : fn.results = #[.cell p ty, .tmp u, .tmp v]) (tmps : Array Value) (w : World) (g : Nat) (t : TypeId) (cs : Array Value) (d : TypeDesc)
    (hp : tmps.getD p undef = .pointer (some ⟨g, 0, none⟩)) (hg : Whole w g t cs)
    (hu : P.underlying ty = some d) (hd : (match d with | .struct _ | .array _ _ => true | _ => false) = true) (hi : (P.info? ty).map (·.size) = some cs.size) :
    (results fn tmps).run P w = .ok (.tuple #[.agg cs, tmps.getD u undef, tmps.getD v undef]) w := by
  have hp' : tmps[p]?.getD undef = .pointer (some ⟨g, 0, none⟩) := by simpa using hp
  have hg' : w.heap[g]? = some (.cells cs t (0, 0)) := hg
  simp [results, h, hp', asAddr, run_loadVar_row w g t ty cs (0, 0) d hg' hu hd hi]

theorem build_entry (S : ByteArray) (m : Int) (id : List UInt8) (hi : id.length = 32) (w : World) : (Instr.build 45 #[(0, .string S), (1, .int .i64 m), (2, .agg (bytesV id).toArray)]).run Try.prog w = .ok (.agg (.string S :: .int .i64 m :: bytesV id).toArray) w := by
  rcases id with _ | ⟨i0, _ | ⟨i1, _ | ⟨i2, _ | ⟨i3, _ | ⟨i4, _ | ⟨i5, _ | ⟨i6, _ | ⟨i7, _ | ⟨i8, _ | ⟨i9, _ | ⟨i10, _ | ⟨i11, _ | ⟨i12, _ | ⟨i13, _ | ⟨i14, _ | ⟨i15, _ | ⟨i16, _ | ⟨i17, _ | ⟨i18, _ | ⟨i19, _ | ⟨i20, _ | ⟨i21, _ | ⟨i22, _ | ⟨i23, _ | ⟨i24, _ | ⟨i25, _ | ⟨i26, _ | ⟨i27, _ | ⟨i28, _ | ⟨i29, _ | ⟨i30, _ | ⟨i31, _ | ⟨i32, id⟩⟩⟩⟩⟩⟩⟩⟩⟩⟩⟩⟩⟩⟩⟩⟩⟩⟩⟩⟩⟩⟩⟩⟩⟩⟩⟩⟩⟩⟩⟩⟩⟩
  all_goals first | (simp only [List.length_cons, List.length_nil] at hi; omega) | kernel_rfl
theorem yieldsIf_build {P : Program} {ops : Array Oper} {S : World → Prop} {op : Oper} {a : Act} (hw : Region.wanted op (yielded ops a.tmps) = true) (t : TypeId) (parts : Array (Nat × Operand)) (ho : op.op = .build t parts)
    (vals : Array (Nat × Value)) (hvals : (parts.map fun (i, x) => (i, a.eval x)) = vals) (v : Value) (hv : ∀ w, (Instr.build t vals).run P w = .ok v w) : YieldsIf P ops S op v a :=
  .inl ⟨hw, fun w _ => by
    unfold execOp
    simp [ho, hvals, hv]⟩
theorem yieldsIf_load_cx {ops : Array Oper} {S : World → Prop} {op : Oper} {a : Act} (hw : Region.wanted op (yielded ops a.tmps) = true) (x : Operand) (ho : op.op = .load 45 x)
    (b o : Nat) (hx : a.eval x = .pointer (some ⟨b, o, none⟩)) (cx : Array Value) (hs : cx.size = 34) (hS : ∀ w, S w → w.rangeAt b o cx.toList) : YieldsIf Try.prog ops S op (.agg cx) a := by
  have := yieldsIf_load_mid (P := Try.prog) (ops := ops) (S := S) hw 45 x ho b o hx cx.toList _ hS underE rfl (by rw [Array.length_toList, hs]; exact size_ent)
  rwa [Array.toArray_toList] at this
theorem size_id : (Try.prog.info? 43).map (·.size) = some 32 := by kernel_rfl
theorem arr_ptr (A : Option Addr) (c : Nat) (w : World) : (Instr.arrayAt 43 (.slice A 32 c)).run Try.prog w = .ok (.pointer A) w := by kernel_rfl

/-! What the beginning of bytes tells. -/
def modeT (l : List UInt8) : Int := ((l.getD 0 0).toNat : Int) - 48
def errT (l : List UInt8) : Int :=
  if modeB (modeT l) = false then 16 else if 1 < l.length ∧ l.getD 1 0 ≠ 32 then 16 else if l.length = 1 then 10
  else if nameB (nm (l.drop 2)) = false then 15 else if (bh (l.drop 2)).length < 32 then 10 else 0
def mkEnt (n : List UInt8) (m : Int) (i : List UInt8) : Ent :=
  if h : n.length ≤ 140737488355327 ∧ (-9223372036854775808 ≤ m ∧ m ≤ 9223372036854775807) ∧ i.length = 32 then ⟨n, m, i, h.1, h.2.1, h.2.2⟩ else default
def entT (l : List UInt8) : Ent := if errT l = 0 then mkEnt (nm (l.drop 2)) (modeT l) ((bh (l.drop 2)).take 32) else default
def restT (l : List UInt8) : List UInt8 := if errT l = 0 then (bh (l.drop 2)).drop 32 else []
theorem modeT_range (l : List UInt8) : -9223372036854775808 ≤ modeT l ∧ modeT l ≤ 9223372036854775807 := by
  have := (l.getD 0 0).toNat_lt
  unfold modeT
  omega
theorem took_bad {l : List UInt8} (h : errT l ≠ 0) : entT l = default ∧ restT l = [] := by rw [entT, restT, if_neg h, if_neg h]; exact ⟨rfl, rfl⟩
theorem took_cells {l : List UInt8} (h : errT l = 0) (hn : nameB (nm (l.drop 2)) = true) (hb : ¬ (bh (l.drop 2)).length < 32) : entV (entT l) = .string (strB (nm (l.drop 2))) :: .int .i64 (modeT l) :: bytesV ((bh (l.drop 2)).take 32) := by
  have h1 := name_small hn
  rw [entT, if_pos h, mkEnt, dif_pos ⟨by omega, modeT_range l, by rw [List.length_take]; omega⟩]; rfl

set_option maxHeartbeats 3200000 in
set_option maxRecDepth 100000 in
theorem Ttake_any (A : Option Addr) (hA : Plain A) (c : Nat) (l : List UInt8) (hl : l.length ≤ 9223372036854775806) (hcap : l.length ≤ c) (hne : 0 < l.length) (w : World) (h : Lies w A (bytesV l)) (w0 : World) (h0 : Lies w0 A (bytesV l)) :
    Calls Try.prog 31 #[.slice A l.length c] w fun e w' => (∃ A2 c2, e = .returned (.tuple #[.agg (entV (entT l)).toArray, .slice A2 (restT l).length c2, .int .i64 (errT l)]) ∧ Plain A2 ∧ (restT l).length ≤ c2 ∧ Lies w0 A2 (bytesV (restT l))) ∧ Below w.heap.size w w' := by
  (
    obtain ⟨w1, hw1⟩ : ∃ w1, w.alloc (.cells zeroE 45) = w1 := ⟨_, rfl⟩
    have HZ := Lib.hid (show Whole w1 w.heap.size 45 zeroE from by subst hw1; exact Whole.new w 45 zeroE)
    have HF1 := Lib.hid (show Fr (fun _ => False) w w1 from by subst hw1; exact (Fr.refl _ w).alloc _)
    unfold zeroE at hw1
    simp [List.replicate] at hw1)
  have HL := Lib.hid h
  have HL0 := Lib.hid h0
  clear h0
  obtain ⟨b, o, rfl⟩ := h.someB hne
  have hg0 : l[0]? = some (l.getD 0 0) := by rw [List.getD_eq_getElem?_getD, List.getElem?_eq_getElem hne]; rfl
  have c0 : w1.cell? ⟨b, o, none⟩ = some (.int .u8 ((l.getD 0 0).toNat : Nat)) := HF1.out.cell (h.byte 0 _ hg0) (fun e => e)
  obtain ⟨v, hv⟩ : ∃ v : Nat, (l.getD 0 0).toNat = v := ⟨_, rfl⟩
  have hvb : v ≤ 255 := by have := (l.getD 0 0).toNat_lt; omega
  have hm : modeT l = (v : Int) - 48 := by rw [modeT, hv]
  rw [hv] at c0
  have wv : IntKind.i64.wrap (v : Int) = v := wrap_nz v (by omega)
  have wv2 : IntKind.i64.wrap ((v : Int) - 48) = modeT l := by rw [hm, IntKind.wrap_i64]; omega
  obtain ⟨n, hn⟩ : ∃ n, l.length = n := ⟨_, rfl⟩
  have HN := Lib.hid hn
  have hn0 : 0 < n := by omega
  have cm := fun w => TisMode_any (modeT l) w
  cases hb1 : modeB (modeT l) with
  | false =>
    have HE : Hid (errT l = 16) := Lib.hid (by rw [errT, if_pos hb1])
    rw [hb1] at cm
    obtain ⟨m, hm'⟩ : ∃ m, modeT l = m := ⟨_, rfl⟩
    rw [hm'] at cm wv2
    rw [hn]
    clear hb1 hm hv hg0 h hcap hl hne hn hm' hA
    go_enter Try.func31, Try.ntmps31
    go_wp2_with (first
      | (refine wpList_store_at rfl 45 _ _ rfl w.heap.size 0 45 _ zeroE rfl rfl HZ.out (by decide) size_ent (entV_all default) ?_; intro w6 hw6 hf6)
      | (go_at_call 25; refine (cm _).mono ?_; rintro e w' ⟨rfl, rfl⟩))
    rw [laidAt_all _ _ rfl] at hw6
    (
      refine bodyPost_ret (v := .tuple #[.agg zeroE, .slice none 0 0, .int .i64 16]) (results_cell_slots (p := 2) (u := 3) (v := 4) rfl _ _ _ _ _ _ rfl hw6 underE rfl size_ent) rfl ?_
      obtain ⟨e1, e2⟩ := took_bad (l := l) (by rw [HE.out]; decide)
      refine ⟨⟨none, 0, by rw [e1, e2, HE.out]; rfl, .inl rfl, by rw [e2]; exact Nat.le_refl _, by rw [e2]; exact .inl rfl⟩, ?_⟩)
    exact (HF1.out.trans hf6 (fun i hi e => by omega)).below (fun _ _ e => e)
  | true =>
    rw [hb1] at cm
    by_cases hone : n = 1
    · have HE : Hid (errT l = 10) := Lib.hid (by rw [errT, hb1, if_neg (by simp), if_neg (by omega), if_pos (by omega)])
      obtain ⟨m, hm'⟩ : ∃ m, modeT l = m := ⟨_, rfl⟩
      rw [hm'] at cm wv2
      rw [hn]
      have hgt : ¬ (1 : Int) < (n : Int) := by omega
      have heq : (n : Int) = 1 := by omega
      clear hb1 hm hv hg0 h hcap hl hne hn hm' hA
      subst hone
      go_enter Try.func31, Try.ntmps31
      go_wp2_with (first
        | (refine wpList_store_at rfl 45 _ _ rfl w.heap.size 0 45 _ zeroE rfl rfl HZ.out (by decide) size_ent (entV_all default) ?_; intro w6 hw6 hf6)
        | (go_at_call 25; refine (cm _).mono ?_; rintro e w' ⟨rfl, rfl⟩))
      rw [laidAt_all _ _ rfl] at hw6
      (
        refine bodyPost_ret (v := .tuple #[.agg zeroE, .slice none 0 0, .int .i64 10]) (results_cell_slots (p := 2) (u := 3) (v := 4) rfl _ _ _ _ _ _ rfl hw6 underE rfl size_ent) rfl ?_
        obtain ⟨e1, e2⟩ := took_bad (l := l) (by rw [HE.out]; decide)
        refine ⟨⟨none, 0, by rw [e1, e2, HE.out]; rfl, .inl rfl, by rw [e2]; exact Nat.le_refl _, by rw [e2]; exact .inl rfl⟩, ?_⟩)
      exact (HF1.out.trans hf6 (fun i hi e => by omega)).below (fun _ _ e => e)
    · have hn2 : 1 < n := by omega
      have hgt : (1 : Int) < (n : Int) := by omega
      have hg1 : l[1]? = some (l.getD 1 0) := by rw [List.getD_eq_getElem?_getD, List.getElem?_eq_getElem (by omega)]; rfl
      have c1 : w1.cell? ⟨b, o + 1, none⟩ = some (.int .u8 ((l.getD 1 0).toNat : Nat)) := HF1.out.cell (h.byte 1 _ hg1) (fun e => e)
      by_cases hbl : l.getD 1 0 = 32
      · have hA' := hA.tlB c 2
        have hl' := h.tlB c 2 hcap
        have hl0' := HL0.out.tlB c 2 hcap
        have s1 : ∀ w, (Instr.slice 30 (.slice (some ⟨b, o, none⟩) n c) (some (.int .i64 2)) none none).run Try.prog w = .ok (.slice (tlB (some ⟨b, o, none⟩) c 2) (n - 2) (c - 2)) w := fun w => slice_tlB _ n c 2 (by omega) w
        rw [hbl] at c1
        have hln : (l.drop 2).length = n - 2 := by rw [List.length_drop, hn]
        have HBad1 : Hid (nameB (nm (l.drop 2)) = false → errT l = 15) := Lib.hid (fun e => by rw [errT, hb1, if_neg (by simp), if_neg (fun q => q.2 hbl), if_neg (by omega), if_pos e])
        have HBad2 : Hid (nameB (nm (l.drop 2)) = true → (bh (l.drop 2)).length < 32 → errT l = 10) := Lib.hid (fun e e2 => by rw [errT, hb1, if_neg (by simp), if_neg (fun q => q.2 hbl), if_neg (by omega), if_neg (by rw [e]; simp), if_pos e2])
        have HGood : Hid (nameB (nm (l.drop 2)) = true → ¬ (bh (l.drop 2)).length < 32 → errT l = 0) := Lib.hid (fun e e2 => by rw [errT, hb1, if_neg (by simp), if_neg (fun q => q.2 hbl), if_neg (by omega), if_neg (by rw [e]; simp), if_neg e2])
        have hnm2 : (nm (l.drop 2)).length ≤ n := by
          rcases idx0_cases (l.drop 2) with ⟨_, e, _⟩ | ⟨m, _, _, e, _⟩
          · rw [e]; omega
          · rw [e, List.length_take]; omega
        obtain ⟨A', hA1⟩ : ∃ A', tlB (some ⟨b, o, none⟩) c 2 = A' := ⟨_, rfl⟩
        rw [hA1] at hA' hl' s1 hl0'
        have HLA := Lib.hid hl'
        have HLA0 := Lib.hid hl0'
        have HCut := Lib.hid (fun (w2 : World) g (f : Fr (fun _ => False) w w2) (hg : w2.cell? ⟨g, 0, none⟩ = some (.int .u8 0)) => GbCut_any A' hA' (c - 2) g (l.drop 2) (by omega) (by omega) w2 (hl'.fr f (fun _ _ e => e)) hg)
        have HCv : Hid (∀ w2, Fr (fun _ => False) w w2 → ∀ k1, (convert 30 9 (.slice A' (nm (l.drop 2)).length k1)).run Try.prog w2 = .ok (.string (strB (nm (l.drop 2)))) w2) := Lib.hid (fun w2 f k1 => run_convert_lies 30 9 5 Try.underlying30 Try.underlying5 Try.underlying9 (by
          have e : Lies w2 A' (bytesV (nm (l.drop 2))) := by
            rcases idx0_cases (l.drop 2) with ⟨_, e, _⟩ | ⟨m, _, _, e, _⟩
            · rw [e]; exact hl'.fr f (fun _ _ e => e)
            · rw [e]; exact (hl'.fr f (fun _ _ e => e)).takeB m
          exact e) k1)
        have cn := fun w => RtName_any (nm (l.drop 2)) (by omega) w
        rw [hln] at HCut
        obtain ⟨l2, hl2e⟩ : ∃ l2, l.drop 2 = l2 := ⟨_, rfl⟩
        rw [hl2e] at HBad1 HBad2 HGood HCut HCv cn HLA HLA0
        obtain ⟨d2, hd2⟩ : ∃ d, n - 2 = d := ⟨_, rfl⟩
        obtain ⟨c2, hc2⟩ : ∃ d, c - 2 = d := ⟨_, rfl⟩
        rw [hd2] at HCut s1
        rw [hc2] at HCut s1
        obtain ⟨N, hN⟩ : ∃ N, (nm l2).length = N := ⟨_, rfl⟩
        obtain ⟨B, hB⟩ : ∃ B, (bh l2).length = B := ⟨_, rfl⟩
        have HBn := Lib.hid hB
        rw [hN] at HCut HCv
        rw [hB] at HCut HBad2 HGood
        obtain ⟨S, hS⟩ : ∃ S, strB (nm l2) = S := ⟨_, rfl⟩
        have HSn := Lib.hid hS
        rw [hS] at HCv cn
        have HM := Lib.hid (show modeT l = modeT l from rfl)
        obtain ⟨m, hm'⟩ : ∃ m, modeT l = m := ⟨_, rfl⟩
        have HMn := Lib.hid hm'
        have HLe := Lib.hid hl2e
        rw [hm'] at cm wv2
        obtain ⟨F, hF⟩ : ∃ F, decide (0 ≤ idx0 l2) = F := ⟨_, rfl⟩
        rw [hF] at HCut
        rw [hn]
        clear hb1 hm hv hg0 hg1 h hcap hl hne hn hm' hA hbl hone hA' hl' hl0' hln hnm2 hA1 hl2e hd2 hc2 hN hB hS hF HM
        have HZ3 := HZ
        cases hb2 : nameB (nm l2) with
        | false =>
          have HE := Lib.hid (HBad1.out hb2)
          rw [hb2] at cn
          clear hb2
          go_enter Try.func31, Try.ntmps31
          go_wp2_with (
            (first
              | (refine wpList_store_at rfl 45 _ _ rfl w.heap.size 0 45 _ zeroE rfl rfl (HZ3.out) (by decide) size_ent (entV_all default) ?_; intro w6 hw6 hf6)
              | (go_at_call 25; refine (cm _).mono ?_; rintro e w' ⟨rfl, rfl⟩)
              | (go_at_call 26; refine (cn _).mono ?_; rintro e w' ⟨rfl, rfl⟩)
              | (go_at_call 41; refine (HCut.out _ w1.heap.size (HF1.out.alloc _) (by rw [(Whole.new w1 5 #[.int .u8 0]).cell]; rfl)).mono ?_
                 rintro e w3 ⟨⟨A2, k1, k2, rfl, hp2, hk2, hl2⟩, bb⟩
                 have HF3 := Lib.hid ((HF1.out.alloc _).then_below bb)
                 have HZ3 := Lib.hid (HZ.out.fr (((Fr.refl (fun _ => False) w1).alloc _).then_below bb) (fun e => e))
                 have HK2 := Lib.hid hk2
                 have HP2 := Lib.hid hp2
                 have HL2 := Lib.hid (hl2 w HLA.out)
                 have HL20 := Lib.hid (hl2 w0 HLA0.out)
                 have cv := HCv.out w3 HF3.out k1
                 clear hp2 hk2 hl2 bb)))
          rw [laidAt_all _ _ rfl] at hw6
          (
            refine bodyPost_ret (v := .tuple #[.agg zeroE, .slice none 0 0, .int .i64 15]) (results_cell_slots (p := 2) (u := 3) (v := 4) rfl _ _ _ _ _ _ rfl hw6 underE rfl size_ent) rfl ?_
            obtain ⟨e1, e2⟩ := took_bad (l := l) (by rw [HE.out]; decide)
            refine ⟨⟨none, 0, by rw [e1, e2, HE.out]; rfl, .inl rfl, by rw [e2]; exact Nat.le_refl _, by rw [e2]; exact .inl rfl⟩, ?_⟩)
          exact (HF3.out.trans hf6 (fun i hi e => by omega)).below (fun _ _ e => e)
        | true =>
          by_cases hB32 : B < 32
          · have HE := Lib.hid (HBad2.out hb2 hB32)
            have hBz : (B : Int) < 32 := by omega
            rw [hb2] at cn
            clear hb2 hB32
            go_enter Try.func31, Try.ntmps31
            go_wp2_with (
              (first
                | (refine wpList_store_at rfl 45 _ _ rfl w.heap.size 0 45 _ zeroE rfl rfl (HZ3.out) (by decide) size_ent (entV_all default) ?_; intro w6 hw6 hf6)
                | (go_at_call 25; refine (cm _).mono ?_; rintro e w' ⟨rfl, rfl⟩)
                | (go_at_call 26; refine (cn _).mono ?_; rintro e w' ⟨rfl, rfl⟩)
                | (go_at_call 41; refine (HCut.out _ w1.heap.size (HF1.out.alloc _) (by rw [(Whole.new w1 5 #[.int .u8 0]).cell]; rfl)).mono ?_
                   rintro e w3 ⟨⟨A2, k1, k2, rfl, hp2, hk2, hl2⟩, bb⟩
                   have HF3 := Lib.hid ((HF1.out.alloc _).then_below bb)
                   have HZ3 := Lib.hid (HZ.out.fr (((Fr.refl (fun _ => False) w1).alloc _).then_below bb) (fun e => e))
                   have HK2 := Lib.hid hk2
                   have HP2 := Lib.hid hp2
                   have HL2 := Lib.hid (hl2 w HLA.out)
                   have HL20 := Lib.hid (hl2 w0 HLA0.out)
                   have cv := HCv.out w3 HF3.out k1
                   clear hp2 hk2 hl2 bb)))
            rw [laidAt_all _ _ rfl] at hw6
            (
              refine bodyPost_ret (v := .tuple #[.agg zeroE, .slice none 0 0, .int .i64 10]) (results_cell_slots (p := 2) (u := 3) (v := 4) rfl _ _ _ _ _ _ rfl hw6 underE rfl size_ent) rfl ?_
              obtain ⟨e1, e2⟩ := took_bad (l := l) (by rw [HE.out]; decide)
              refine ⟨⟨none, 0, by rw [e1, e2, HE.out]; rfl, .inl rfl, by rw [e2]; exact Nat.le_refl _, by rw [e2]; exact .inl rfl⟩, ?_⟩)
            exact (HF3.out.trans hf6 (fun i hi e => by omega)).below (fun _ _ e => e)
          · have HE := Lib.hid (HGood.out hb2 hB32)
            have hBz : ¬ (B : Int) < 32 := by omega
            have HCC := Lib.hid (took_cells (l := l) HE.out (by rw [HLe.out]; exact hb2) (by rw [HLe.out, HBn.out]; exact hB32))
            rw [hb2] at cn
            clear hb2 hB32
            go_enter Try.func31, Try.ntmps31
            go_wp2_with (
              (first
                | (refine wpList_store_at rfl 45 _ _ rfl w.heap.size 0 45 _ zeroE rfl rfl (HZ3.out) (by decide) size_ent (entV_all default) ?_; intro w6 hw6 hf6)
                | (go_at_call 25; refine (cm _).mono ?_; rintro e w' ⟨rfl, rfl⟩)
                | (go_at_call 26; refine (cn _).mono ?_; rintro e w' ⟨rfl, rfl⟩)
                | (go_at_call 41; refine (HCut.out _ w1.heap.size (HF1.out.alloc _) (by rw [(Whole.new w1 5 #[.int .u8 0]).cell]; rfl)).mono ?_
                   rintro e w3 ⟨⟨A2, k1, k2, rfl, hp2, hk2, hl2⟩, bb⟩
                   have HF3 := Lib.hid ((HF1.out.alloc _).then_below bb)
                   have HZ3 := Lib.hid (HZ.out.fr (((Fr.refl (fun _ => False) w1).alloc _).then_below bb) (fun e => e))
                   have HK2 := Lib.hid hk2
                   have HP2 := Lib.hid hp2
                   have HL2 := Lib.hid (hl2 w HLA.out)
                   have HL20 := Lib.hid (hl2 w0 HLA0.out)
                   have cv := HCv.out w3 HF3.out k1
                   clear hp2 hk2 hl2 bb)))
            obtain ⟨b2, o2, rfl⟩ := HL2.out.someB (by rw [HBn.out]; omega)
            have s5 : ∀ w, (Instr.slice 30 (.slice (some ⟨b2, o2, none⟩) B k2) none (some (.int .i64 32)) none).run Try.prog w = .ok (.slice (some ⟨b2, o2, none⟩) 32 k2) w := fun w => slice_hdB _ HP2.out B k2 32 (by have := HK2.out; omega) w
            have p5 := fun w => arr_ptr (some ⟨b2, o2, none⟩) k2 w
            have cv5 : ∀ q : Later w, (convert 30 9 (.slice A' N k1)).run Try.prog q.w' = .ok (.string S) q.w' := fun q => HCv.out _ q.fr k1
            clear hw1
            refine wp_region_held (S := fun w' => ∃ q : Later w, w' = q.w') (by kernel_rfl) ?_
            (
              refine wpAnyH_take (i := 0) (v := .slice A' N k1) rfl (by kernel_rfl) (by kernel_rfl) (by kernel_rfl) (fun _ _ _ h => h) (.inl ⟨by rfl, ?_⟩) ⟨⟨_, HF3.out.drew⟩, rfl⟩ ?_
              · rintro _ ⟨q, rfl⟩
                go_simp)
            (
              refine wpAnyH_take (i := 1) (v := .string S) rfl (by kernel_rfl) (by kernel_rfl) (by kernel_rfl) (fun _ _ _ h => h) (.inl ⟨by rfl, ?_⟩) ⟨⟨_, HF3.out.drew⟩, rfl⟩ ?_
              · rintro _ ⟨q, rfl⟩
                go_simp)
            (
              refine wpAnyH_take (i := 2) (v := .int .i64 m) rfl (by kernel_rfl) (by kernel_rfl) (by kernel_rfl) (fun _ _ _ h => h) (.inl ⟨by rfl, ?_⟩) ⟨⟨_, HF3.out.drew⟩, rfl⟩ ?_
              · rintro _ ⟨q, rfl⟩
                go_simp)
            (
              refine wpAnyH_take (i := 3) (v := .slice (some ⟨b2, o2, none⟩) B k2) rfl (by kernel_rfl) (by kernel_rfl) (by kernel_rfl) (fun _ _ _ h => h) (.inl ⟨by rfl, ?_⟩) ⟨⟨_, HF3.out.drew⟩, rfl⟩ ?_
              · rintro _ ⟨q, rfl⟩
                go_simp)
            (
              refine wpAnyH_take (i := 4) (v := .slice (some ⟨b2, o2, none⟩) 32 k2) rfl (by kernel_rfl) (by kernel_rfl) (by kernel_rfl) (fun _ _ _ h => h) (.inl ⟨by rfl, ?_⟩) ⟨⟨_, HF3.out.drew⟩, rfl⟩ ?_
              · rintro _ ⟨q, rfl⟩
                go_simp)
            refine wpAnyH_all (rs := [5]) (by kernel_rfl) (by simp) ?_
            intro i hi
            simp only [List.mem_cons, List.not_mem_nil, or_false] at hi
            subst hi
            refine wpOp_step rfl (fun K hK => ?_)
            go_simp
            refine hK _ _ ⟨⟨⟨_, HF3.out.drew⟩, rfl⟩, ?_⟩
            clear hK K
            have hIl : ((bh l2).take 32).length = 32 := by have := HBn.out; rw [List.length_take]; omega
            have HRG : Hid (∀ q : Later w, q.w'.rangeAt b2 o2 (bytesV ((bh l2).take 32))) := Lib.hid (fun q j u hu => by
              rcases (HL2.out.takeB 32).fr q.fr (fun _ _ e => e) with e | ⟨b', o', e, hc⟩
              · rw [e] at hu; simp at hu
              · cases e; exact hc j u hu)
            have hcc := HCC.out
            rw [HLe.out, HSn.out, HMn.out] at hcc
            obtain ⟨I, hI⟩ : ∃ I, (bh l2).take 32 = I := ⟨_, rfl⟩
            rw [hI] at hIl HRG hcc
            have hbe := build_entry S m I hIl
            rw [← hcc] at hbe
            have hcs := entV_size (entT l)
            have hca := entV_all (entT l)
            obtain ⟨cx, hcx⟩ : ∃ cx, (entV (entT l)).toArray = cx := ⟨_, rfl⟩
            rw [hcx] at hbe hcs hca
            have HCX := Lib.hid hcx
            clear hcx hcc
            refine wpAnyH_take (i := 6) (v := .agg (bytesV I).toArray) rfl (by kernel_rfl) (by kernel_rfl) (by kernel_rfl) (fun _ _ _ h => h) (yieldsIf_load_mid (by kernel_rfl) 43 (.tmp 59) rfl b2 o2 (by kernel_rfl) (bytesV I) _ (by rintro _ ⟨q, rfl⟩; exact HRG.out q) Try.underlying43 rfl (by rw [bytesV_length, hIl]; exact size_id)) ⟨⟨_, HF3.out.drew⟩, rfl⟩ ?_
            refine wpAnyH_take (i := 7) (v := .agg cx) rfl (by kernel_rfl) (by kernel_rfl) (by kernel_rfl) (fun _ _ _ h => h) (yieldsIf_build (by kernel_rfl) 45 #[(0, .tmp 55), (1, .tmp 56), (2, .tmp 60)] rfl #[(0, .string S), (1, .int .i64 m), (2, .agg (bytesV I).toArray)] (by kernel_rfl) (.agg cx) hbe) ⟨⟨_, HF3.out.drew⟩, rfl⟩ ?_
            refine wpAnyH_all (rs := [8]) (by kernel_rfl) (by simp) ?_
            intro i hi
            simp only [List.mem_cons, List.not_mem_nil, or_false] at hi
            subst hi
            refine wpOp_step rfl (fun K hK => ?_)
            rw [if_pos (by kernel_rfl)]
            refine wp_store_at 45 (.tmp 2) (.tmp 61) rfl w.heap.size 0 45 zeroE cx (by kernel_rfl) (by kernel_rfl) (HZ3.out.fr ((Fr.refl (fun _ => False) _).drew) (fun e => e)) (by rw [zeroE_size, hcs]; exact Nat.le_refl _) (by rw [hcs]; exact size_ent) hca ?_
            intro w6 hw6 hf6
            rw [laidAt_all _ _ (by rw [zeroE_size, hcs])] at hw6
            have HF6 := Lib.hid (show Fr (fun _ => False) w w6 from HF3.out.drew.trans hf6 (fun i hi e => by omega))
            have HS6 := Lib.hid (show Fr (fun _ => False) w w6.drew ∧ Whole w6.drew w.heap.size 45 cx from ⟨HF6.out.drew, hw6.fr ((Fr.refl (fun _ => False) _).drew) (fun e => e)⟩)
            clear hf6 hw6
            go_simp
            refine hK _ _ ⟨⟨⟨_, HF6.out⟩, rfl⟩, ?_⟩
            clear hK K
            refine wpAnyH_done (by kernel_rfl) ?_ _
            have hB3 : 32 ≤ B := by omega
            have s6 : ∀ w, (Instr.slice 30 (.slice (some ⟨b2, o2, none⟩) B k2) (some (.int .i64 32)) none none).run Try.prog w = .ok (.slice (tlB (some ⟨b2, o2, none⟩) k2 32) (B - 32) (k2 - 32)) w := fun w => slice_tlB _ B k2 32 hB3 w
            have HR : Hid (restT l = (bh l2).drop 32) := Lib.hid (by rw [restT, if_pos HE.out, HLe.out])
            have HRl : Hid ((restT l).length = B - 32) := Lib.hid (by rw [HR.out, List.length_drop, HBn.out])
            have HR3 : Hid (Lies w0 (tlB (some ⟨b2, o2, none⟩) k2 32) (bytesV (restT l))) := Lib.hid (by rw [HR.out]; exact HL20.out.tlB k2 32 (by have := HK2.out; have := HBn.out; omega))
            have HP3 := Lib.hid (HP2.out.tlB k2 32)
            have HK3 : Hid (B - 32 ≤ k2 - 32) := Lib.hid (by have := HK2.out; have := HBn.out; omega)
            obtain ⟨A3, hA3⟩ : ∃ A3, tlB (some ⟨b2, o2, none⟩) k2 32 = A3 := ⟨_, rfl⟩
            obtain ⟨B3, hB3'⟩ : ∃ B3, B - 32 = B3 := ⟨_, rfl⟩
            obtain ⟨k3, hk3⟩ : ∃ k3, k2 - 32 = k3 := ⟨_, rfl⟩
            rw [hA3, hB3', hk3] at s6
            rw [hA3] at HR3 HP3
            rw [hB3'] at HRl HK3
            rw [hk3] at HK3
            clear hA3 hB3' hk3 hB3
            go_wp2_with fail
            refine wp_region_held (S := fun w' => Fr (fun _ => False) w w' ∧ Whole w' w.heap.size 45 cx) (by kernel_rfl) ?_
            refine wpAnyH_take (i := 0) (v := .agg cx) rfl (by kernel_rfl) (by kernel_rfl) (by kernel_rfl) (fun _ _ _ h => h) (yieldsIf_load_cx (by kernel_rfl) (.tmp 2) rfl w.heap.size 0 (by kernel_rfl) cx hcs (fun w' hS j u hu => by rw [Nat.zero_add, hS.2.cell, ← Array.getElem?_toList]; exact hu)) HS6.out ?_
            (
              refine wpAnyH_take (i := 1) (v := .slice (some ⟨b2, o2, none⟩) B k2) rfl (by kernel_rfl) (by kernel_rfl) (by kernel_rfl) (fun _ _ _ h => h) (.inl ⟨by rfl, ?_⟩) HS6.out ?_
              · rintro w' _
                go_simp)
            (
              refine wpAnyH_take (i := 2) (v := .slice A3 B3 k3) rfl (by kernel_rfl) (by kernel_rfl) (by kernel_rfl) (fun _ _ _ h => h) (.inl ⟨by rfl, ?_⟩) HS6.out ?_
              · rintro w' _
                go_simp)
            refine wpAnyH_all (rs := [3]) (by kernel_rfl) (by simp) ?_
            intro i hi
            simp only [List.mem_cons, List.not_mem_nil, or_false] at hi
            subst hi
            refine wpOp_step rfl (fun K hK => ?_)
            rw [if_pos (by kernel_rfl)]
            refine wp_store_at 45 (.tmp 2) (.tmp 62) rfl w.heap.size 0 45 cx cx (by kernel_rfl) (by kernel_rfl) HS6.out.2 (by omega) (by rw [hcs]; exact size_ent) hca ?_
            intro w7 hw7 hf7
            rw [laidAt_all _ _ rfl] at hw7
            have HS7 := Lib.hid (show Fr (fun _ => False) w w7 ∧ Whole w7 w.heap.size 45 cx from ⟨HS6.out.1.trans hf7 (fun i hi e => by omega), hw7⟩)
            clear hf7 hw7
            go_simp
            refine hK _ _ ⟨HS7.out, ?_⟩
            clear hK K
            refine wpAnyH_all (rs := [4]) (by kernel_rfl) (by simp) ?_
            intro i hi
            simp only [List.mem_cons, List.not_mem_nil, or_false] at hi
            subst hi
            refine wpOp_step rfl (fun K hK => ?_)
            go_simp
            refine hK _ _ ⟨HS7.out, ?_⟩
            clear hK K
            refine wpAnyH_all (rs := [5]) (by kernel_rfl) (by simp) ?_
            intro i hi
            simp only [List.mem_cons, List.not_mem_nil, or_false] at hi
            subst hi
            refine wpOp_step rfl (fun K hK => ?_)
            go_simp
            refine hK _ _ ⟨HS7.out, ?_⟩
            clear hK K
            refine wpAnyH_done (by kernel_rfl) ?_ _
            go_wp2_with fail
            refine bodyPost_ret (v := .tuple #[.agg cx, .slice A3 B3 k3, .int .i64 0]) (results_cell_slots (p := 2) (u := 3) (v := 4) rfl _ _ _ _ _ _ rfl HS7.out.2 underE rfl (by rw [hcs]; exact size_ent)) rfl ?_
            exact ⟨⟨A3, k3, by rw [HCX.out, HRl.out, HE.out], HP3.out, by rw [HRl.out]; exact HK3.out, HR3.out⟩, HS7.out.1.below (fun _ _ e => e)⟩
      · have HE : Hid (errT l = 16) := Lib.hid (by rw [errT, hb1, if_neg (by simp), if_pos ⟨by omega, hbl⟩])
        have hu : ¬ (((l.getD 1 0).toNat : Nat) : Int) = 32 := fun e => hbl (UInt8.toNat_inj.1 (by show _ = 32; omega))
        obtain ⟨u, hu'⟩ : ∃ u : Nat, (l.getD 1 0).toNat = u := ⟨_, rfl⟩
        obtain ⟨m, hm'⟩ : ∃ m, modeT l = m := ⟨_, rfl⟩
        rw [hm'] at cm wv2
        rw [hu'] at hu c1
        rw [hn]
        clear hb1 hm hv hg0 hg1 h hcap hl hne hn hm' hA hbl hu' hone
        go_enter Try.func31, Try.ntmps31
        go_wp2_with (first
          | (refine wpList_store_at rfl 45 _ _ rfl w.heap.size 0 45 _ zeroE rfl rfl HZ.out (by decide) size_ent (entV_all default) ?_; intro w6 hw6 hf6)
          | (go_at_call 25; refine (cm _).mono ?_; rintro e w' ⟨rfl, rfl⟩))
        rw [laidAt_all _ _ rfl] at hw6
        (
          refine bodyPost_ret (v := .tuple #[.agg zeroE, .slice none 0 0, .int .i64 16]) (results_cell_slots (p := 2) (u := 3) (v := 4) rfl _ _ _ _ _ _ rfl hw6 underE rfl size_ent) rfl ?_
          obtain ⟨e1, e2⟩ := took_bad (l := l) (by rw [HE.out]; decide)
          refine ⟨⟨none, 0, by rw [e1, e2, HE.out]; rfl, .inl rfl, by rw [e2]; exact Nat.le_refl _, by rw [e2]; exact .inl rfl⟩, ?_⟩)
        exact (HF1.out.trans hf6 (fun i hi e => by omega)).below (fun _ _ e => e)
end Go.Proofs.Ytcbgpbcfpeanjaa

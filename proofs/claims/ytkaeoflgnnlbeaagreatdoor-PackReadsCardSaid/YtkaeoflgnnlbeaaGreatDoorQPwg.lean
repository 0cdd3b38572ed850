/- What is proved: texts that stand one behind the other: Pwg. Conditions: each theorem names its own. -/
import Derived.Test.YtkaeoflgnnlbeaaGreatDoorQPwf
/- What is proved: the ids of objects, no two of which may have one, by the program; over what an object's name tells. Conditions: the objects' cells are there. -/
namespace Go.Proofs.YtkaeoflgnnlbeaaGreatDoor
open Go.RowKit Go.Maps
set_option linter.unusedVariables false

/-- What an object's name tells, in each world that comes of one. -/
def NmSays (nm : Int → List UInt8 → List UInt8 × Int) (w0 : World) (k : Int) (b : List UInt8) : Prop :=
  ∀ (A : Option Addr) (c : Nat) (w : World), Fr (fun _ => False) w0 w → b.length ≤ c → c ≤ 9223372036854775807 → Lies w A (bytesV b) → Calls Tryz.prog 43 #[.int .i64 k, .slice A b.length c] w fun e w' => e = .returned (.tuple #[.agg (idV (nm k b).1), .int .i64 (nm k b).2]) ∧ Fr (fun _ => False) w w'
def nmL (nm : Int → List UInt8 → List UInt8 × Int) : List PIt → List (List UInt8) × Int
  | [] => ([], 0)
  | p :: ps => if (nm p.k p.b).2 ≠ 0 then ([], (nm p.k p.b).2) else if (nmL nm ps).2 ≠ 0 then ([], (nmL nm ps).2) else ((nm p.k p.b).1 :: (nmL nm ps).1, 0)
def namesR (nm : Int → List UInt8 → List UInt8 × Int) (ps : List PIt) : List (List UInt8) × Int :=
  if (nmL nm ps).2 ≠ 0 then ([], (nmL nm ps).2) else if (setL (nmL nm ps).1).length < (nmL nm ps).1.length then ([], 17) else ((nmL nm ps).1, 0)
def flatJ (l : List (List UInt8)) : List Value := l.flatMap bytesV
theorem flatJ_append (a b : List (List UInt8)) : flatJ (a ++ b) = flatJ a ++ flatJ b := by simp [flatJ]
theorem flatJ_one (a : List UInt8) : flatJ [a] = bytesV a := by simp [flatJ]
theorem infoID : (Tryz.prog.info? 48).map (fun i => (i.zero, i.size, i.bytes)) = some (some (.agg zero32P), 32, 32) := by kernel_rfl
theorem zero32P_cells : (Value.agg zero32P).cells.size = 32 := by kernel_rfl
theorem build_ids (V : Array Value) (hV : V.size = 32) (w : World) : (Instr.buildSlice 62 1 #[(0, .agg V)]).run Tryz.prog w = .ok (.slice (some ⟨w.heap.size, 0, none⟩) 1 1) (w.alloc (.cells V 48)) := by
  obtain ⟨i, hi, hz0, hz1, hz2⟩ := info_parts infoID
  refine run_buildSlice w 62 48 1 _ V i (.agg zero32P) Tryz.underlying62 hi hz0 (by rw [hz1]; decide) (by rw [hz1]; decide) ?_
  rw [hz1]
  have := Great.fill_whole (s := 32) (by decide) [.agg V] ((Array.range (1 * 32)).map ((Value.agg zero32P).cells[· % (Value.agg zero32P).cells.size]!)) (fun v hv => by rw [List.mem_singleton.1 hv]; simp [Value.cells, hV]) (by simp)
  simpa [Value.cells] using this
theorem wpList_build_ids {ops : Array Oper} {rest : List Oper} {o : Oper} {a : Act} {w : World} {Q : Exit → Act → World → Prop} (hgd : o.guard = none) (x : Operand) (ho : o.op = .buildSlice 62 1 #[(0, x)]) (V : Array Value) (hV : V.size = 32)
    (hx : a.eval x = .agg V) (h : wpList Tryz.prog ops Q rest (a.put o.dst (.slice (some ⟨w.heap.size, 0, none⟩) 1 1)) (w.alloc (.cells V 48))) : wpList Tryz.prog ops Q (o :: rest) a w :=
  wpList_plain hgd fun _ hK => by
    unfold Oper.wp execOp
    have e : (#[((0 : Nat), x)].map fun (i, y) => (i, a.eval y)) = #[(0, .agg V)] := by simp [hx]
    simp only [ho, e, Sem.run_bind, build_ids V hV, Result.andThen_ok, Sem.run_pure]
    exact hK _ _ h
theorem wpList_update_set {ops : Array Oper} {rest : List Oper} {o : Oper} {a : Act} {w : World} {Q : Exit → Act → World → Prop} (hgd : o.guard = none) (m x v : Operand) (ho : o.op = Op.mapUpdate 105 m x v) (b : Nat) (S : List (List UInt8)) (k : List UInt8) (hk : k.length = 32)
    (hm : a.eval m = .map (some b)) (hx : a.eval x = .agg (idV k)) (hs : SetIs w b S)
    (hK : ∀ w', SetIs w' b (insS S k) → Fr (fun j => j = b) w w' → wpList Tryz.prog ops Q rest (a.put o.dst undef) w') : wpList Tryz.prog ops Q (o :: rest) a w := by
  refine wpList_plain hgd fun K' hK' => ?_
  obtain ⟨w', hrun, r1, r2⟩ := hs.put k hk (a.eval v)
  unfold Oper.wp
  simp [execOp, ho, hm, hx, hrun, Result.andThen]
  exact hK' _ _ (hK w' r1 r2)
theorem wpList_len_set {ops : Array Oper} {rest : List Oper} {o : Oper} {a : Act} {w : World} {Q : Exit → Act → World → Prop} (hgd : o.guard = none) (m : Operand) (ho : o.op = Op.call { callee := Callee.builtin Builtin.len, args := #[m], argTypes := #[105] }) (b : Nat) (S : List (List UInt8))
    (hm : a.eval m = .map (some b)) (hs : SetIs w b S) (hK : wpList Tryz.prog ops Q rest (a.put o.dst (.int .i64 S.length)) w) : wpList Tryz.prog ops Q (o :: rest) a w := by
  refine wpList_plain hgd fun K' hK' => ?_
  obtain ⟨es, cl, hb, hl⟩ := hs.len
  have hrun : (Builtin.len_ #[105] o.type #[.map (some b)]).run Tryz.prog w = .ok (.int .i64 S.length) w := by
    rw [← hl]
    simp [Builtin.len_, run_underlying underSeen, MapKept.run_getObj_map hb, goInt, Result.andThen]
  unfold Oper.wp
  simp [execOp, ho, resolve, invoke, builtin, hm, hrun, Result.andThen]
  exact hK' _ _ hK
theorem src_id (w : World) (k : List UInt8) (hk : k.length = 32) : Src Tryz.prog 32 62 (.slice (some ⟨w.heap.size, 0, none⟩) 1 1) 1 (bytesV k) (w.alloc (.cells (idV k) 48)) :=
  Src.ofSlice _ Tryz.underlying62 ⟨w.heap.size, 0, none⟩ 1 1 (bytesV k) (by rw [bytesV_length, hk]) (fun j u hu => by
    rw [add_off, Nat.zero_add, (Whole.new w 48 _).cell]; simpa [idV] using hu) (bytesV_one k)
theorem own_no_map {w : World} {base b : Nat} {e : TypeId} {size n : Nat} {v : Value} {xs : List Value} {S : List (List UInt8)} (h : w.ownsRow base e size v n xs) (hs : SetIs w b S) : v.ownBlock ≠ some b := by
  intro hb
  obtain ⟨es, cl, h1, _⟩ := hs
  rcases h.2 with ⟨hv, _⟩ | ⟨g, cap, cur, hv, _, hg, _⟩
  · rw [hv] at hb; cases hb
  · rw [hv] at hb
    have : g = b := by simpa [Value.ownBlock] using hb
    rw [this, h1] at hg
    cases hg
/-- What names tells. -/
def NsPost (w : World) (R : List (List UInt8) × Int) (e : Ending) (w' : World) : Prop :=
  ∃ v, e = .returned (.tuple #[v, .int .i64 R.2]) ∧ w'.ownsRow w.heap.size 48 32 v R.1.length (flatJ R.1) ∧ (∀ k ∈ R.1, k.length = 32) ∧ Below w.heap.size w w'

set_option maxHeartbeats 12800000 in
set_option maxRecDepth 100000 in
theorem Pnames_any (nm : Int → List UInt8 → List UInt8 × Int) (hnl : ∀ k b, (nm k b).1.length = 32) (IA : Option Addr) (c : Nat) (ps : List PIt) (hps : ps.length ≤ 600) (w : World) (hi : Its w IA c ps) (hnm : ∀ p ∈ ps, NmSays nm w p.k p.b) :
    Calls Tryz.prog 22 #[.slice IA ps.length c] w (NsPost w (namesR nm ps)) := by
  obtain ⟨R, hR⟩ : ∃ R, namesR nm ps = R := ⟨_, rfl⟩
  rw [hR]
  unfold namesR at hR
  obtain ⟨R0, hR0⟩ : ∃ R0, nmL nm ps = R0 := ⟨_, rfl⟩
  rw [hR0] at hR
  have HR := Lib.hid hR
  have HI := Lib.hid hi
  have HNm := Lib.hid hnm
  have HNl := Lib.hid hnl
  obtain ⟨L, hL⟩ : ∃ L, ps.length = L := ⟨_, rfl⟩
  have HL := Lib.hid hL
  obtain ⟨i1, gi, gz0, gz1, gz2⟩ := info_parts infoID
  have h0 : (if (nmL nm (ps.drop 0)).2 ≠ 0 then ([], (nmL nm (ps.drop 0)).2) else (([] : List (List UInt8)) ++ (nmL nm (ps.drop 0)).1, 0)) = (if R0.2 ≠ 0 then ([], R0.2) else (R0.1, 0)) := by rw [List.drop_zero, hR0, List.nil_append]
  have H0 := Lib.hid h0
  rw [hL] at hps ⊢
  clear hR hR0 hi hnm hnl hL h0
  obtain ⟨w1, hw1⟩ : ∃ w1, w.alloc (.map #[] 0) = w1 := ⟨_, rfl⟩
  have HF1 := Lib.hid (show Fr (fun _ => False) w w1 by subst hw1; exact (Fr.refl _ _).alloc _)
  have HS1 := Lib.hid (show SetIs w1 w.heap.size [] by subst hw1; exact SetIs.made w)
  have hmk : ∀ w : World, (Instr.makeMap 105 none).run Tryz.prog w = .ok (.map (some w.heap.size)) (w.alloc (.map #[] 0)) := fun w => rfl
  go_enter Tryz.func22, Tryz.ntmps22
  go_wp2_with fail
  clear hmk
  try rw [hw1]
  obtain ⟨mb, hmb⟩ : ∃ mb, w.heap.size = mb := ⟨_, rfl⟩
  rw [hmb] at HS1 ⊢
  have HMb := Lib.hid hmb
  clear hw1 hmb
  go_loopw [4, 13] (fun s4 s13 wr => ∃ (i : Nat) (v4 : Value) (acc : List (List UInt8)), s13 = .int .i64 i ∧ s4 = v4 ∧ i ≤ L ∧ Hid (acc.length = i ∧ ∀ k ∈ acc, k.length = 32) ∧ Hid (wr.ownsRow mb 48 32 v4 i (flatJ acc)) ∧ Hid (SetIs wr mb (setL acc)) ∧ Hid ((if (nmL nm (ps.drop i)).2 ≠ 0 then ([], (nmL nm (ps.drop i)).2) else (acc ++ (nmL nm (ps.drop i)).1, 0)) = (if R0.2 ≠ 0 then ([], R0.2) else (R0.1, 0))) ∧ Hid (Fr (fun _ => False) w wr)) (fun _ i _ => L - (intOf i).toNat)
  case atStart => exact ⟨0, .slice none 0 0, [], rfl, rfl, by omega, Lib.hid ⟨rfl, by simp⟩, Lib.hid (World.ownsRow_nil _ _ _ _), HS1, H0, HF1⟩
  case round =>
    obtain ⟨i, v4, acc, rfl, rfl, hil, HAc, HO, HS, HX, HF⟩ := hrel
    obtain ⟨A4, c4, hv4, -, -⟩ := own_slice HO.out
    subst hv4
    by_cases hlt : i < L
    · have hi2 : (i : Int) < L := by omega
      obtain ⟨p, hp⟩ : ∃ p, ps[i]? = some p := ⟨_, List.getElem?_eq_getElem (by have := HL.out; omega)⟩
      have hpm := List.mem_of_getElem? hp
      obtain ⟨ab, ao, hIA⟩ := HI.out.addr (k := i) (by have := HL.out; omega)
      subst hIA
      obtain ⟨y0, y1⟩ := (HI.out.fr HF.out).cells hp
      have hok := HI.out.ok p hpm
      have hdr : ps.drop i = p :: ps.drop (i + 1) := by
        rw [List.drop_eq_getElem_cons (by have := HL.out; omega)]
        congr 1
        exact (List.getElem?_eq_some_iff.1 hp).2
      have hX := HX.out
      rw [hdr] at hX
      unfold nmL at hX
      have HN := Lib.hid (HNm.out p hpm)
      unfold NmSays at HN
      have HOk := Lib.hid (And.intro hok.le (And.intro hok.cap (hok.lies.fr HF.out (fun _ _ e => e))))
      obtain ⟨k, b, B, cb⟩ := p
      simp only at y0 y1 hX HN HOk
      have hid := HNl.out k b
      obtain ⟨⟨id, E⟩, hE⟩ : ∃ z, nm k b = z := ⟨_, rfl⟩
      simp only [hE] at hX HN hid
      obtain ⟨LB, hLB⟩ : ∃ LB, b.length = LB := ⟨_, rfl⟩
      simp only [hLB] at HN y1 HOk
      have HId := Lib.hid hid
      have hVs := idV_size id hid
      have hVo : (idV id).all (·.oneCell') = true := Array.all_eq_true_iff_forall_mem.2 (fun u hu => idV_one id u (by simpa using hu))
      have HVk := Lib.hid (show idV id = idV id ∧ bytesV id = (idV id).toList from ⟨rfl, by simp [idV]⟩)
      obtain ⟨V, hV⟩ : ∃ V, idV id = V := ⟨_, rfl⟩
      rw [hV] at hVs hVo HN HVk
      have HV := Lib.hid hV
      have HX2 := Lib.hid hX
      clear hp hpm hok hdr hX hid hE hLB hV
      go_upto_region 6 with fail
      obtain ⟨w2, hw2⟩ : ∃ w2, wr.alloc (.cells #[.int .i64 k, .slice B LB cb] 59) = w2 := ⟨_, rfl⟩
      rw [hw2]
      have HF2 := Lib.hid (show Fr (fun _ => False) wr w2 by subst hw2; exact (Fr.refl _ _).alloc _)
      have HX0 := Lib.hid (show Whole w2 wr.heap.size 59 #[.int .i64 k, .slice B LB cb] by subst hw2; exact Whole.new _ _ _)
      have x0 : w2.cell? ⟨wr.heap.size, 0, none⟩ = some (.int .i64 k) := by rw [HX0.out.cell]; rfl
      have x1 : w2.cell? ⟨wr.heap.size, 1, none⟩ = some (.slice B LB cb) := by rw [HX0.out.cell]; rfl
      have HNc := Lib.hid (HN.out B cb w2 (HF.out.trans HF2.out (fun _ _ e => e)) HOk.out.1 HOk.out.2.1 (HOk.out.2.2.fr HF2.out (fun _ _ e => e)))
      clear hw2 y0 y1
      go_upto_region 7 with (first
        | (go_at_call 43; refine HNc.out.mono ?_; rintro e w3 ⟨rfl, f3⟩; have HF3 := Lib.hid (HF2.out.trans f3 (fun _ _ e => e)); clear f3)
        | (refine wpList_store_at rfl 48 _ _ rfl w3.heap.size 0 48 _ V rfl rfl (Whole.new _ _ _) (by rw [hVs]; decide) (by rw [hVs]; exact sizeID) hVo ?_
           intro w4 hw4 hf4
           rw [laidAt_all _ _ (by rw [hVs]; rfl)] at hw4
           have HF4 := Lib.hid (show Fr (fun _ => False) wr w4 from (HF3.out.alloc _).trans hf4 (fun j hj e => by have := HF3.out.size; omega))
           have HW4 := Lib.hid hw4
           clear hw4 hf4))
      obtain ⟨gb, hgb⟩ : ∃ gb, w3.heap.size = gb := ⟨_, rfl⟩
      rw [hgb] at HW4 ⊢
      have HGb := Lib.hid (show wr.heap.size ≤ gb from by have := HF3.out.size; omega)
      clear hgb x0 x1
      have HFw4 := Lib.hid (HF.out.trans HF4.out (fun _ _ e => e))
      have HO4 := Lib.hid (own_fr HO.out HF4.out (fun _ _ e => e))
      have HS4 := Lib.hid (HS.out.fr HF4.out (fun e => e))
      by_cases hE : E = 0
      · subst hE
        have hX := HX2.out
        rw [if_neg (show ¬ (0 : Int) ≠ 0 by simp)] at hX
        have HXn := Lib.hid (show (if (nmL nm (ps.drop (i + 1))).2 ≠ 0 then ([], (nmL nm (ps.drop (i + 1))).2) else ((acc ++ [id]) ++ (nmL nm (ps.drop (i + 1))).1, 0)) = (if R0.2 ≠ 0 then ([], R0.2) else (R0.1, 0)) from by
          rw [← hX]
          generalize nmL nm (ps.drop (i + 1)) = z
          by_cases e : z.2 ≠ 0
          · rw [if_pos e, if_pos e]; simp only; rw [if_pos e]
          · rw [if_neg e, if_neg e, if_neg (by simp)]; simp)
        clear hX
        have hwi : IntKind.i64.wrap ((i : Int) + 1) = ((i + 1 : Nat) : Int) := by rw [IntKind.wrap_i64]; omega
        go_wp2_with (first
          | (refine wpList_load_row rfl 48 _ rfl gb rfl 48 V _ _ (by first | exact HW4.out | exact HW6.out) Tryz.underlying48 rfl (by rw [hVs]; exact sizeID) ?_)
          | (refine wpList_build_ids rfl (.tmp 29) rfl V hVs rfl ?_)
          | (at_builtin; refine wpList_append_row _ rfl (.tmp 28) (.tmp 30) 62 62 rfl mb 48 i1 (.agg zero32P) 32 32 Tryz.underlying62 gi gz0 gz1 gz2 zero32P_cells _ i (flatJ acc) rfl (HO4.out.alloc _) _ 1 (bytesV id) rfl (by have := src_id w4 id HId.out; rw [HV.out] at this; exact this) (by unfold maxLen; omega) (by omega) (by have := HFw4.out.size; have := HMb.out; simp; omega) ?_
             intro v6 w6 o6 g6 at6
             have HFa := Lib.hid (show Fr (fun j => Value.ownBlock (.slice A4 i c4) = some j) w4 w6 from ((Fr.refl _ w4).alloc _).grown g6 (fun j hj _ => hj))
             have HF6 := Lib.hid (show Fr (fun _ => False) w w6 from HFw4.out.trans HFa.out (fun j hj e => by have := (World.ownsRow.lt HO4.out _ e).1; have := HMb.out; omega))
             have HW6 := Lib.hid (HW4.out.fr HFa.out (fun e => by have := (World.ownsRow.lt HO.out _ e).2; have := HGb.out; omega))
             have HS6 := Lib.hid (HS4.out.fr HFa.out (fun e => own_no_map HO4.out HS4.out e))
             have HO6 := Lib.hid (show w6.ownsRow mb 48 32 v6 (i + 1) (flatJ (acc ++ [id])) from by rw [flatJ_append, flatJ_one]; exact o6)
             obtain ⟨A6, c6, hv6, -, -⟩ := own_slice o6
             subst hv6
             clear o6 g6 at6)
          | (refine wpList_update_set rfl (.tmp 32) (.tmp 33) (.tmp 34) rfl mb (setL acc) id HId.out rfl (by show Value.agg V = _; rw [HV.out]) HS6.out ?_
             intro w7 s7 f7
             have HS7 := Lib.hid (show SetIs w7 mb (setL (acc ++ [id])) from by rw [setL_snoc]; exact s7)
             have HF7 := Lib.hid (show Fr (fun _ => False) w w7 from HF6.out.trans f7 (fun j hj e => by have := HMb.out; omega))
             have HO7 := Lib.hid (own_fr HO6.out f7 (fun j hj e => own_no_map HO6.out HS6.out (by rw [hj, e])))
             clear s7 f7))
        go_roundw
        case rel => exact ⟨i + 1, .slice A6 (i + 1) c6, acc ++ [id], by go_num, rfl, by omega, Lib.hid ⟨by rw [List.length_append, HAc.out.1]; rfl, fun k' hk' => by rcases List.mem_append.1 hk' with h | h; exact HAc.out.2 k' h; rw [List.mem_singleton.1 h]; exact HId.out⟩, HO7, HS7, HXn, HF7⟩
        case measure => simp [intOf]; omega
      · have hX := HX2.out
        rw [if_pos hE] at hX
        simp only at hX
        rw [if_pos hE] at hX
        have hE' : (E != 0) = true := by simpa using hE
        have HRz := Lib.hid (show R = ([], E) from by
          rw [← HR.out]
          have h2 : R0.2 = E := by
            have := congrArg Prod.snd hX
            split at this
            · exact this.symm
            · rename_i h; simp at h this; omega
          rw [h2, if_pos hE])
        clear hX hE
        go_wp2_with fail
        go_ret2
        rw [HRz.out]
        exact ⟨.slice none 0 0, rfl, World.ownsRow_nil _ _ _ _, by simp, HFw4.out.below (fun _ _ e => e)⟩
    · obtain rfl : i = L := by omega
      have hX := HX.out
      rw [List.drop_of_length_le (by have := HL.out; omega)] at hX
      rw [show nmL nm [] = ([], 0) from rfl, if_neg (by simp), List.append_nil] at hX
      have hR0 : R0 = (acc, 0) := by
        split at hX
        · rename_i h; injection hX with h1 h2; rw [← h2] at h; exact absurd rfl h
        · rename_i h
          injection hX with h1 h2
          have : R0.2 = 0 := by simpa using h
          rw [h1, ← this]
      have HRr := Lib.hid (show R = (if (setL acc).length < acc.length then ([], 17) else (acc, 0)) from by rw [← HR.out, hR0, if_neg (by simp)])
      have hsl := (setL_le acc).1
      rw [HAc.out.1] at hsl
      clear hX hR0
      by_cases hdp : (setL acc).length < i
      · have hdp' : decide (((setL acc).length : Int) < (i : Int)) = true := by simp; omega
        have HRz := Lib.hid (show R = ([], 17) from by rw [HRr.out, if_pos (by rw [HAc.out.1]; exact hdp)])
        obtain ⟨SL, hSL⟩ : ∃ SL, (setL acc).length = SL := ⟨_, rfl⟩
        have HLn := Lib.hid hSL
        rw [hSL] at hdp hdp' hsl
        have hdp2 : (SL : Int) < i := by omega
        clear hSL
        go_wp2_with (refine wpList_len_set rfl (.tmp 36) rfl mb (setL acc) rfl HS.out ?_; rw [HLn.out])
        go_ret2
        rw [HRz.out]
        exact ⟨.slice none 0 0, rfl, World.ownsRow_nil _ _ _ _, by simp, HF.out.below (fun _ _ e => e)⟩
      · have HRz := Lib.hid (show R = (acc, 0) from by rw [HRr.out, if_neg (by rw [HAc.out.1]; exact hdp)])
        obtain ⟨SL, hSL⟩ : ∃ SL, (setL acc).length = SL := ⟨_, rfl⟩
        have HLn := Lib.hid hSL
        rw [hSL] at hdp hsl
        have hdp2 : ¬ (SL : Int) < i := by omega
        clear hSL
        go_wp2_with (refine wpList_len_set rfl (.tmp 36) rfl mb (setL acc) rfl HS.out ?_; rw [HLn.out])
        go_ret2
        rw [HRz.out]
        exact ⟨.slice A4 i c4, rfl, by rw [HAc.out.1, HMb.out]; exact HO.out, HAc.out.2, HF.out.below (fun _ _ e => e)⟩
end Go.Proofs.YtkaeoflgnnlbeaaGreatDoor

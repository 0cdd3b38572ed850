/- What is proved: texts that stand one behind the other: Pwg Pwi. Conditions: each theorem names its own. -/
import Derived.Test.YtkaeoflgnnlbeaaGreatDoorQPwf
import Derived.Test.YtkaeoflgnnlbeaaGreatDoorQPwe
/- What is proved: the ids of objects, no two of which may have one, by the program; over what an object's name tells. Conditions: the objects' cells are there. -/
namespace Go.Proofs.YtkaeoflgnnlbeaaGreatDoor
open Go.RowKit Go.Maps
set_option linter.unusedVariables false

/-- What an object's name tells, in each world that comes of one. -/
def NmSays (nm : Int → List UInt8 → List UInt8 × Int) (w0 : World) (k : Int) (b : List UInt8) : Prop :=
  ∀ (A : Option Addr) (c : Nat) (w : World), Fr (fun _ => False) w0 w → b.length ≤ c → c ≤ 9223372036854775807 → Lies w A (bytesV b) → Calls Tryz.prog 43 #[.int .i64 k, .slice A b.length c] w fun e w' => e = .returned (.tuple #[.agg (idV (nm k b).1), .int .i64 (nm k b).2]) ∧ Fr (fun _ => False) w w'
def nmL (nm : Int → List UInt8 → List UInt8 × Int) : List PIt → List (List UInt8) × Int
  | [] => ([], 0)
  | p :: ps => if (nm p.k p.b).2 ≠ 0 then ([], (nm p.k p.b).2) else if (nmL nm ps).2 ≠ 0 then ([], (nmL nm ps).2) else ((nm p.k p.b).1 :: (nmL nm ps).1, 0)
def namesR (nm : Int → List UInt8 → List UInt8 × Int) (ps : List PIt) : List (List UInt8) × Int :=
  if (nmL nm ps).2 ≠ 0 then ([], (nmL nm ps).2) else if (setL (nmL nm ps).1).length < (nmL nm ps).1.length then ([], 17) else ((nmL nm ps).1, 0)
def flatJ (l : List (List UInt8)) : List Value := l.flatMap bytesV
theorem flatJ_append (a b : List (List UInt8)) : flatJ (a ++ b) = flatJ a ++ flatJ b := by simp [flatJ]
theorem flatJ_one (a : List UInt8) : flatJ [a] = bytesV a := by simp [flatJ]
theorem infoID : (Tryz.prog.info? 48).map (fun i => (i.zero, i.size, i.bytes)) = some (some (.agg zero32P), 32, 32) := by kernel_rfl
theorem zero32P_cells : (Value.agg zero32P).cells.size = 32 := by kernel_rfl
theorem build_ids (V : Array Value) (hV : V.size = 32) (w : World) : (Instr.buildSlice 62 1 #[(0, .agg V)]).run Tryz.prog w = .ok (.slice (some ⟨w.heap.size, 0, none⟩) 1 1) (w.alloc (.cells V 48)) := by
  obtain ⟨i, hi, hz0, hz1, hz2⟩ := info_parts infoID
  refine run_buildSlice w 62 48 1 _ V i (.agg zero32P) Tryz.underlying62 hi hz0 (by rw [hz1]; decide) (by rw [hz1]; decide) ?_
  rw [hz1]
  have := Great.fill_whole (s := 32) (by decide) [.agg V] ((Array.range (1 * 32)).map ((Value.agg zero32P).cells[· % (Value.agg zero32P).cells.size]!)) (fun v hv => by rw [List.mem_singleton.1 hv]; simp [Value.cells, hV]) (by simp)
  simpa [Value.cells] using this
theorem wpList_build_ids {ops : Array Oper} {rest : List Oper} {o : Oper} {a : Act} {w : World} {Q : Exit → Act → World → Prop} (hgd : o.guard = none) (x : Operand) (ho : o.op = .buildSlice 62 1 #[(0, x)]) (V : Array Value) (hV : V.size = 32)
    (hx : a.eval x = .agg V) (h : wpList Tryz.prog ops Q rest (a.put o.dst (.slice (some ⟨w.heap.size, 0, none⟩) 1 1)) (w.alloc (.cells V 48))) : wpList Tryz.prog ops Q (o :: rest) a w :=
  wpList_plain hgd fun _ hK => by
    unfold Oper.wp execOp
    have e : (#[((0 : Nat), x)].map fun (i, y) => (i, a.eval y)) = #[(0, .agg V)] := by simp [hx]
    simp only [ho, e, Sem.run_bind, build_ids V hV, Result.andThen_ok, Sem.run_pure]
    exact hK _ _ h
theorem wpList_update_set {ops : Array Oper} {rest : List Oper} {o : Oper} {a : Act} {w : World} {Q : Exit → Act → World → Prop} (hgd : o.guard = none) (m x v : Operand) (ho : o.op = Op.mapUpdate 105 m x v) (b : Nat) (S : List (List UInt8)) (k : List UInt8) (hk : k.length = 32)
    (hm : a.eval m = .map (some b)) (hx : a.eval x = .agg (idV k)) (hs : SetIs w b S)
    (hK : ∀ w', SetIs w' b (insS S k) → Fr (fun j => j = b) w w' → wpList Tryz.prog ops Q rest (a.put o.dst undef) w') : wpList Tryz.prog ops Q (o :: rest) a w := by
  refine wpList_plain hgd fun K' hK' => ?_
  obtain ⟨w', hrun, r1, r2⟩ := hs.put k hk (a.eval v)
  unfold Oper.wp
  simp [execOp, ho, hm, hx, hrun, Result.andThen]
  exact hK' _ _ (hK w' r1 r2)
theorem wpList_len_set {ops : Array Oper} {rest : List Oper} {o : Oper} {a : Act} {w : World} {Q : Exit → Act → World → Prop} (hgd : o.guard = none) (m : Operand) (ho : o.op = Op.call { callee := Callee.builtin Builtin.len, args := #[m], argTypes := #[105] }) (b : Nat) (S : List (List UInt8))
    (hm : a.eval m = .map (some b)) (hs : SetIs w b S) (hK : wpList Tryz.prog ops Q rest (a.put o.dst (.int .i64 S.length)) w) : wpList Tryz.prog ops Q (o :: rest) a w := by
  refine wpList_plain hgd fun K' hK' => ?_
  obtain ⟨es, cl, hb, hl⟩ := hs.len
  have hrun : (Builtin.len_ #[105] o.type #[.map (some b)]).run Tryz.prog w = .ok (.int .i64 S.length) w := by
    rw [← hl]
    simp [Builtin.len_, run_underlying underSeen, MapKept.run_getObj_map hb, goInt, Result.andThen]
  unfold Oper.wp
  simp [execOp, ho, resolve, invoke, builtin, hm, hrun, Result.andThen]
  exact hK' _ _ hK
theorem src_id (w : World) (k : List UInt8) (hk : k.length = 32) : Src Tryz.prog 32 62 (.slice (some ⟨w.heap.size, 0, none⟩) 1 1) 1 (bytesV k) (w.alloc (.cells (idV k) 48)) :=
  Src.ofSlice _ Tryz.underlying62 ⟨w.heap.size, 0, none⟩ 1 1 (bytesV k) (by rw [bytesV_length, hk]) (fun j u hu => by
    rw [add_off, Nat.zero_add, (Whole.new w 48 _).cell]; simpa [idV] using hu) (bytesV_one k)
theorem own_no_map {w : World} {base b : Nat} {e : TypeId} {size n : Nat} {v : Value} {xs : List Value} {S : List (List UInt8)} (h : w.ownsRow base e size v n xs) (hs : SetIs w b S) : v.ownBlock ≠ some b := by
  intro hb
  obtain ⟨es, cl, h1, _⟩ := hs
  rcases h.2 with ⟨hv, _⟩ | ⟨g, cap, cur, hv, _, hg, _⟩
  · rw [hv] at hb; cases hb
  · rw [hv] at hb
    have : g = b := by simpa [Value.ownBlock] using hb
    rw [this, h1] at hg
    cases hg
/-- What names tells. -/
def NsPost (w : World) (R : List (List UInt8) × Int) (e : Ending) (w' : World) : Prop :=
  ∃ v, e = .returned (.tuple #[v, .int .i64 R.2]) ∧ w'.ownsRow w.heap.size 48 32 v R.1.length (flatJ R.1) ∧ (∀ k ∈ R.1, k.length = 32) ∧ Below w.heap.size w w'

set_option maxHeartbeats 12800000 in
set_option maxRecDepth 100000 in
theorem Pnames_any (nm : Int → List UInt8 → List UInt8 × Int) (hnl : ∀ k b, (nm k b).1.length = 32) (IA : Option Addr) (c : Nat) (ps : List PIt) (hps : ps.length ≤ 600) (w : World) (hi : Its w IA c ps) (hnm : ∀ p ∈ ps, NmSays nm w p.k p.b) :
    Calls Tryz.prog 22 #[.slice IA ps.length c] w (NsPost w (namesR nm ps)) := by
  obtain ⟨R, hR⟩ : ∃ R, namesR nm ps = R := ⟨_, rfl⟩
  rw [hR]
  unfold namesR at hR
  obtain ⟨R0, hR0⟩ : ∃ R0, nmL nm ps = R0 := ⟨_, rfl⟩
  rw [hR0] at hR
  have HR := Lib.hid hR
  have HI := Lib.hid hi
  have HNm := Lib.hid hnm
  have HNl := Lib.hid hnl
  obtain ⟨L, hL⟩ : ∃ L, ps.length = L := ⟨_, rfl⟩
  have HL := Lib.hid hL
  obtain ⟨i1, gi, gz0, gz1, gz2⟩ := info_parts infoID
  have h0 : (if (nmL nm (ps.drop 0)).2 ≠ 0 then ([], (nmL nm (ps.drop 0)).2) else (([] : List (List UInt8)) ++ (nmL nm (ps.drop 0)).1, 0)) = (if R0.2 ≠ 0 then ([], R0.2) else (R0.1, 0)) := by rw [List.drop_zero, hR0, List.nil_append]
  have H0 := Lib.hid h0
  rw [hL] at hps ⊢
  clear hR hR0 hi hnm hnl hL h0
  obtain ⟨w1, hw1⟩ : ∃ w1, w.alloc (.map #[] 0) = w1 := ⟨_, rfl⟩
  have HF1 := Lib.hid (show Fr (fun _ => False) w w1 by subst hw1; exact (Fr.refl _ _).alloc _)
  have HS1 := Lib.hid (show SetIs w1 w.heap.size [] by subst hw1; exact SetIs.made w)
  have hmk : ∀ w : World, (Instr.makeMap 105 none).run Tryz.prog w = .ok (.map (some w.heap.size)) (w.alloc (.map #[] 0)) := fun w => rfl
  go_enter Tryz.func22, Tryz.ntmps22
  go_wp2_with fail
  clear hmk
  try rw [hw1]
  obtain ⟨mb, hmb⟩ : ∃ mb, w.heap.size = mb := ⟨_, rfl⟩
  rw [hmb] at HS1 ⊢
  have HMb := Lib.hid hmb
  clear hw1 hmb
  go_loopw [4, 13] (fun s4 s13 wr => ∃ (i : Nat) (v4 : Value) (acc : List (List UInt8)), s13 = .int .i64 i ∧ s4 = v4 ∧ i ≤ L ∧ Hid (acc.length = i ∧ ∀ k ∈ acc, k.length = 32) ∧ Hid (wr.ownsRow mb 48 32 v4 i (flatJ acc)) ∧ Hid (SetIs wr mb (setL acc)) ∧ Hid ((if (nmL nm (ps.drop i)).2 ≠ 0 then ([], (nmL nm (ps.drop i)).2) else (acc ++ (nmL nm (ps.drop i)).1, 0)) = (if R0.2 ≠ 0 then ([], R0.2) else (R0.1, 0))) ∧ Hid (Fr (fun _ => False) w wr)) (fun _ i _ => L - (intOf i).toNat)
  case atStart => exact ⟨0, .slice none 0 0, [], rfl, rfl, by omega, Lib.hid ⟨rfl, by simp⟩, Lib.hid (World.ownsRow_nil _ _ _ _), HS1, H0, HF1⟩
  case round =>
    obtain ⟨i, v4, acc, rfl, rfl, hil, HAc, HO, HS, HX, HF⟩ := hrel
    obtain ⟨A4, c4, hv4, -, -⟩ := own_slice HO.out
    subst hv4
    by_cases hlt : i < L
    · have hi2 : (i : Int) < L := by omega
      obtain ⟨p, hp⟩ : ∃ p, ps[i]? = some p := ⟨_, List.getElem?_eq_getElem (by have := HL.out; omega)⟩
      have hpm := List.mem_of_getElem? hp
      obtain ⟨ab, ao, hIA⟩ := HI.out.addr (k := i) (by have := HL.out; omega)
      subst hIA
      obtain ⟨y0, y1⟩ := (HI.out.fr HF.out).cells hp
      have hok := HI.out.ok p hpm
      have hdr : ps.drop i = p :: ps.drop (i + 1) := by
        rw [List.drop_eq_getElem_cons (by have := HL.out; omega)]
        congr 1
        exact (List.getElem?_eq_some_iff.1 hp).2
      have hX := HX.out
      rw [hdr] at hX
      unfold nmL at hX
      have HN := Lib.hid (HNm.out p hpm)
      unfold NmSays at HN
      have HOk := Lib.hid (And.intro hok.le (And.intro hok.cap (hok.lies.fr HF.out (fun _ _ e => e))))
      obtain ⟨k, b, B, cb⟩ := p
      simp only at y0 y1 hX HN HOk
      have hid := HNl.out k b
      obtain ⟨⟨id, E⟩, hE⟩ : ∃ z, nm k b = z := ⟨_, rfl⟩
      simp only [hE] at hX HN hid
      obtain ⟨LB, hLB⟩ : ∃ LB, b.length = LB := ⟨_, rfl⟩
      simp only [hLB] at HN y1 HOk
      have HId := Lib.hid hid
      have hVs := idV_size id hid
      have hVo : (idV id).all (·.oneCell') = true := Array.all_eq_true_iff_forall_mem.2 (fun u hu => idV_one id u (by simpa using hu))
      have HVk := Lib.hid (show idV id = idV id ∧ bytesV id = (idV id).toList from ⟨rfl, by simp [idV]⟩)
      obtain ⟨V, hV⟩ : ∃ V, idV id = V := ⟨_, rfl⟩
      rw [hV] at hVs hVo HN HVk
      have HV := Lib.hid hV
      have HX2 := Lib.hid hX
      clear hp hpm hok hdr hX hid hE hLB hV
      go_upto_region 6 with fail
      obtain ⟨w2, hw2⟩ : ∃ w2, wr.alloc (.cells #[.int .i64 k, .slice B LB cb] 59) = w2 := ⟨_, rfl⟩
      rw [hw2]
      have HF2 := Lib.hid (show Fr (fun _ => False) wr w2 by subst hw2; exact (Fr.refl _ _).alloc _)
      have HX0 := Lib.hid (show Whole w2 wr.heap.size 59 #[.int .i64 k, .slice B LB cb] by subst hw2; exact Whole.new _ _ _)
      have x0 : w2.cell? ⟨wr.heap.size, 0, none⟩ = some (.int .i64 k) := by rw [HX0.out.cell]; rfl
      have x1 : w2.cell? ⟨wr.heap.size, 1, none⟩ = some (.slice B LB cb) := by rw [HX0.out.cell]; rfl
      have HNc := Lib.hid (HN.out B cb w2 (HF.out.trans HF2.out (fun _ _ e => e)) HOk.out.1 HOk.out.2.1 (HOk.out.2.2.fr HF2.out (fun _ _ e => e)))
      clear hw2 y0 y1
      go_upto_region 7 with (first
        | (go_at_call 43; refine HNc.out.mono ?_; rintro e w3 ⟨rfl, f3⟩; have HF3 := Lib.hid (HF2.out.trans f3 (fun _ _ e => e)); clear f3)
        | (refine wpList_store_at rfl 48 _ _ rfl w3.heap.size 0 48 _ V rfl rfl (Whole.new _ _ _) (by rw [hVs]; decide) (by rw [hVs]; exact sizeID) hVo ?_
           intro w4 hw4 hf4
           rw [laidAt_all _ _ (by rw [hVs]; rfl)] at hw4
           have HF4 := Lib.hid (show Fr (fun _ => False) wr w4 from (HF3.out.alloc _).trans hf4 (fun j hj e => by have := HF3.out.size; omega))
           have HW4 := Lib.hid hw4
           clear hw4 hf4))
      obtain ⟨gb, hgb⟩ : ∃ gb, w3.heap.size = gb := ⟨_, rfl⟩
      rw [hgb] at HW4 ⊢
      have HGb := Lib.hid (show wr.heap.size ≤ gb from by have := HF3.out.size; omega)
      clear hgb x0 x1
      have HFw4 := Lib.hid (HF.out.trans HF4.out (fun _ _ e => e))
      have HO4 := Lib.hid (own_fr HO.out HF4.out (fun _ _ e => e))
      have HS4 := Lib.hid (HS.out.fr HF4.out (fun e => e))
      by_cases hE : E = 0
      · subst hE
        have hX := HX2.out
        rw [if_neg (show ¬ (0 : Int) ≠ 0 by simp)] at hX
        have HXn := Lib.hid (show (if (nmL nm (ps.drop (i + 1))).2 ≠ 0 then ([], (nmL nm (ps.drop (i + 1))).2) else ((acc ++ [id]) ++ (nmL nm (ps.drop (i + 1))).1, 0)) = (if R0.2 ≠ 0 then ([], R0.2) else (R0.1, 0)) from by
          rw [← hX]
          generalize nmL nm (ps.drop (i + 1)) = z
          by_cases e : z.2 ≠ 0
          · rw [if_pos e, if_pos e]; simp only; rw [if_pos e]
          · rw [if_neg e, if_neg e, if_neg (by simp)]; simp)
        clear hX
        have hwi : IntKind.i64.wrap ((i : Int) + 1) = ((i + 1 : Nat) : Int) := by rw [IntKind.wrap_i64]; omega
        go_wp2_with (first
          | (refine wpList_load_row rfl 48 _ rfl gb rfl 48 V _ _ (by first | exact HW4.out | exact HW6.out) Tryz.underlying48 rfl (by rw [hVs]; exact sizeID) ?_)
          | (refine wpList_build_ids rfl (.tmp 29) rfl V hVs rfl ?_)
          | (at_builtin; refine wpList_append_row _ rfl (.tmp 28) (.tmp 30) 62 62 rfl mb 48 i1 (.agg zero32P) 32 32 Tryz.underlying62 gi gz0 gz1 gz2 zero32P_cells _ i (flatJ acc) rfl (HO4.out.alloc _) _ 1 (bytesV id) rfl (by have := src_id w4 id HId.out; rw [HV.out] at this; exact this) (by unfold maxLen; omega) (by omega) (by have := HFw4.out.size; have := HMb.out; simp; omega) ?_
             intro v6 w6 o6 g6 at6
             have HFa := Lib.hid (show Fr (fun j => Value.ownBlock (.slice A4 i c4) = some j) w4 w6 from ((Fr.refl _ w4).alloc _).grown g6 (fun j hj _ => hj))
             have HF6 := Lib.hid (show Fr (fun _ => False) w w6 from HFw4.out.trans HFa.out (fun j hj e => by have := (World.ownsRow.lt HO4.out _ e).1; have := HMb.out; omega))
             have HW6 := Lib.hid (HW4.out.fr HFa.out (fun e => by have := (World.ownsRow.lt HO.out _ e).2; have := HGb.out; omega))
             have HS6 := Lib.hid (HS4.out.fr HFa.out (fun e => own_no_map HO4.out HS4.out e))
             have HO6 := Lib.hid (show w6.ownsRow mb 48 32 v6 (i + 1) (flatJ (acc ++ [id])) from by rw [flatJ_append, flatJ_one]; exact o6)
             obtain ⟨A6, c6, hv6, -, -⟩ := own_slice o6
             subst hv6
             clear o6 g6 at6)
          | (refine wpList_update_set rfl (.tmp 32) (.tmp 33) (.tmp 34) rfl mb (setL acc) id HId.out rfl (by show Value.agg V = _; rw [HV.out]) HS6.out ?_
             intro w7 s7 f7
             have HS7 := Lib.hid (show SetIs w7 mb (setL (acc ++ [id])) from by rw [setL_snoc]; exact s7)
             have HF7 := Lib.hid (show Fr (fun _ => False) w w7 from HF6.out.trans f7 (fun j hj e => by have := HMb.out; omega))
             have HO7 := Lib.hid (own_fr HO6.out f7 (fun j hj e => own_no_map HO6.out HS6.out (by rw [hj, e])))
             clear s7 f7))
        go_roundw
        case rel => exact ⟨i + 1, .slice A6 (i + 1) c6, acc ++ [id], by go_num, rfl, by omega, Lib.hid ⟨by rw [List.length_append, HAc.out.1]; rfl, fun k' hk' => by rcases List.mem_append.1 hk' with h | h; exact HAc.out.2 k' h; rw [List.mem_singleton.1 h]; exact HId.out⟩, HO7, HS7, HXn, HF7⟩
        case measure => simp [intOf]; omega
      · have hX := HX2.out
        rw [if_pos hE] at hX
        simp only at hX
        rw [if_pos hE] at hX
        have hE' : (E != 0) = true := by simpa using hE
        have HRz := Lib.hid (show R = ([], E) from by
          rw [← HR.out]
          have h2 : R0.2 = E := by
            have := congrArg Prod.snd hX
            split at this
            · exact this.symm
            · rename_i h; simp at h this; omega
          rw [h2, if_pos hE])
        clear hX hE
        go_wp2_with fail
        go_ret2
        rw [HRz.out]
        exact ⟨.slice none 0 0, rfl, World.ownsRow_nil _ _ _ _, by simp, HFw4.out.below (fun _ _ e => e)⟩
    · obtain rfl : i = L := by omega
      have hX := HX.out
      rw [List.drop_of_length_le (by have := HL.out; omega)] at hX
      rw [show nmL nm [] = ([], 0) from rfl, if_neg (by simp), List.append_nil] at hX
      have hR0 : R0 = (acc, 0) := by
        split at hX
        · rename_i h; injection hX with h1 h2; rw [← h2] at h; exact absurd rfl h
        · rename_i h
          injection hX with h1 h2
          have : R0.2 = 0 := by simpa using h
          rw [h1, ← this]
      have HRr := Lib.hid (show R = (if (setL acc).length < acc.length then ([], 17) else (acc, 0)) from by rw [← HR.out, hR0, if_neg (by simp)])
      have hsl := (setL_le acc).1
      rw [HAc.out.1] at hsl
      clear hX hR0
      by_cases hdp : (setL acc).length < i
      · have hdp' : decide (((setL acc).length : Int) < (i : Int)) = true := by simp; omega
        have HRz := Lib.hid (show R = ([], 17) from by rw [HRr.out, if_pos (by rw [HAc.out.1]; exact hdp)])
        obtain ⟨SL, hSL⟩ : ∃ SL, (setL acc).length = SL := ⟨_, rfl⟩
        have HLn := Lib.hid hSL
        rw [hSL] at hdp hdp' hsl
        have hdp2 : (SL : Int) < i := by omega
        clear hSL
        go_wp2_with (refine wpList_len_set rfl (.tmp 36) rfl mb (setL acc) rfl HS.out ?_; rw [HLn.out])
        go_ret2
        rw [HRz.out]
        exact ⟨.slice none 0 0, rfl, World.ownsRow_nil _ _ _ _, by simp, HF.out.below (fun _ _ e => e)⟩
      · have HRz := Lib.hid (show R = (acc, 0) from by rw [HRr.out, if_neg (by rw [HAc.out.1]; exact hdp)])
        obtain ⟨SL, hSL⟩ : ∃ SL, (setL acc).length = SL := ⟨_, rfl⟩
        have HLn := Lib.hid hSL
        rw [hSL] at hdp hsl
        have hdp2 : ¬ (SL : Int) < i := by omega
        clear hSL
        go_wp2_with (refine wpList_len_set rfl (.tmp 36) rfl mb (setL acc) rfl HS.out ?_; rw [HLn.out])
        go_ret2
        rw [HRz.out]
        exact ⟨.slice A4 i c4, rfl, by rw [HAc.out.1, HMb.out]; exact HO.out, HAc.out.2, HF.out.below (fun _ _ e => e)⟩
end Go.Proofs.YtkaeoflgnnlbeaaGreatDoor
/- What is proved: a pack of objects is written, by the program; over what making a script, a name and a sum tell. Conditions: the objects' cells are there; all is short enough. -/
namespace Go.Proofs.YtkaeoflgnnlbeaaGreatDoor
open Go.RowKit
set_option linter.unusedVariables false

theorem Lies.of_ownJ {w : World} {base : Nat} {e : TypeId} {A : Option Addr} {n c : Nat} {xs : List Value} (h : w.ownsRow base e 32 (.slice A n c) n xs) : Lies w A xs := by
  rcases own_shape h with ⟨_, _, h0⟩ | ⟨g, cap, hv, _⟩
  · exact .inl h0
  · injection hv with h1 h2 h3
    subst h1; subst h3
    refine .inr ⟨g, 0, rfl, fun j u hu => ?_⟩
    have := World.ownsRow.cells h (g := g) rfl j u hu
    rwa [add_off] at this
/-- A list of ids, by its cells. -/
theorem flatJ_get (ids : List (List UInt8)) (h : ∀ k ∈ ids, k.length = 32) (i j : Nat) (k : List UInt8) (hk : ids[i]? = some k) (hj : j < 32) : (flatJ ids)[i * 32 + j]? = (bytesV k)[j]? := by
  induction ids generalizing i with
  | nil => simp at hk
  | cons a ids ih =>
    have ha : (bytesV a).length = 32 := by simp [bytesV, h a (by simp)]
    show (bytesV a ++ flatJ ids)[i * 32 + j]? = _
    cases i with
    | zero =>
      simp at hk
      subst hk
      rw [Nat.zero_mul, Nat.zero_add, List.getElem?_append_left (by omega)]
    | succ i =>
      rw [List.getElem?_append_right (by omega), ha, show (i + 1) * 32 + j - 32 = i * 32 + j by omega]
      exact ih (fun k hk => h k (by simp [hk])) i (by simpa using hk)
theorem range_idJ {w : World} {b o : Nat} {ids : List (List UInt8)} {i : Nat} {id : List UInt8} (h : Lies w (some ⟨b, o, none⟩) (flatJ ids)) (hl : ∀ k ∈ ids, k.length = 32) (hi : ids[i]? = some id) : w.rangeAt b (o + i * 32) (idV id).toList := by
  have hid := hl id (List.mem_of_getElem? hi)
  intro j v hv
  have hj : j < 32 := by have := (List.getElem?_eq_some_iff.1 hv).1; simpa [idV, bytesV, hid] using this
  have hg := flatJ_get ids hl i j id hi hj
  have hv' : (bytesV id)[j]? = some v := by simpa [idV] using hv
  rcases h with h | ⟨b', o', he, hc⟩
  · rw [h, hv'] at hg; cases hg
  · injection he with he; injection he with h1 h2; subst h1; subst h2
    rw [Nat.add_assoc]
    exact hc _ _ (hg.trans hv')
theorem wpList_load_idP {ops : Array Oper} {rest : List Oper} {op : Oper} {a : Act} {w : World} {Q : Exit → Act → World → Prop} (hgd : op.guard = none) (x : Operand) (ho : op.op = .load 48 x)
    (b o : Nat) (hx : a.eval x = .pointer (some ⟨b, o, none⟩)) (cx : Array Value) (hs : cx.size = 32) (hc : w.rangeAt b o cx.toList)
    (h : wpList Tryz.prog ops Q rest (a.put op.dst (.agg cx)) w) : wpList Tryz.prog ops Q (op :: rest) a w :=
  wpList_load_mid hgd 48 x ho b o hx cx.toList _ hc Tryz.underlying48 rfl (by rw [Array.length_toList, hs]; exact sizeID) (by rw [Array.toArray_toList]; exact h)
/-- The places, with the ids. -/
def plsOf (ids : List (List UInt8)) (l : List (Nat × Int)) : List PPl := List.zipWith (fun id s => ⟨idV id, s.1, s.2⟩) ids l
theorem plsOf_nil (ids : List (List UInt8)) : plsOf ids [] = [] := by simp [plsOf]
theorem plsOf_len (ids : List (List UInt8)) (l : List (Nat × Int)) (h : l.length ≤ ids.length) : (plsOf ids l).length = l.length := by unfold plsOf; rw [List.length_zipWith]; omega
theorem plsOf_snoc (ids : List (List UInt8)) (l : List (Nat × Int)) (x : Nat × Int) (id : List UInt8) (h : ids[l.length]? = some id) : plsOf ids (l ++ [x]) = plsOf ids l ++ [⟨idV id, x.1, x.2⟩] := by
  induction l generalizing ids with
  | nil =>
    cases ids with
    | nil => simp at h
    | cons a ids => simp at h; subst h; simp [plsOf]
  | cons y l ih =>
    cases ids with
    | nil => simp at h
    | cons a ids =>
      have := ih ids (by simpa using h)
      simp only [plsOf, List.cons_append, List.zipWith_cons_cons] at this ⊢
      rw [this]
theorem plsOf_at (ids : List (List UInt8)) (l : List (Nat × Int)) (b : Nat) (hb : b < l.length) (h : l.length ≤ ids.length) : (((plsOf ids l)[b]?).map PPl.at').getD 0 = (l.getD b (0, 0)).1 := by
  unfold plsOf
  rw [List.getElem?_zipWith, List.getD_eq_getElem?_getD, List.getElem?_eq_getElem hb, List.getElem?_eq_getElem (by omega)]
  rfl
theorem plsOf_mem {ids : List (List UInt8)} {l : List (Nat × Int)} {q : PPl} (hq : q ∈ plsOf ids l) : ∃ s ∈ l, q.at' = s.1 := by
  unfold plsOf at hq
  obtain ⟨i, hi⟩ := List.mem_iff_getElem?.1 hq
  rw [List.getElem?_zipWith] at hi
  cases h1 : ids[i]? with
  | none => rw [h1] at hi; cases hi
  | some a =>
    cases h2 : l[i]? with
    | none => rw [h1, h2] at hi; cases hi
    | some s =>
      rw [h1, h2] at hi
      simp at hi
      exact ⟨s, List.mem_of_getElem? h2, by rw [← hi]⟩
/-- A step, by the shortest script. -/
theorem stepW_best (dl : List UInt8 → List UInt8 → List UInt8 × Int) (ps : List PIt) (chain : Int) (k : Nat) (p : PIt) (s : PkS) (hdl : ∀ q ∈ ps, (dl q.b p.b).2 = 0) (hk : k ≤ ps.length) :
    stepW dl ps chain k p s = (layE s.1 p.k (bestL dl ps p.b (candL ps s.2.2 p.k chain k 4) (none, p.b)).2 ((bestL dl ps p.b (candL ps s.2.2 p.k chain k 4) (none, p.b)).1.map fun b => s.1.length - (s.2.1.getD b (0, 0)).1),
      s.2.1 ++ [(s.1.length, crcI (bestL dl ps p.b (candL ps s.2.2 p.k chain k 4) (none, p.b)).2)],
      s.2.2 ++ [match (bestL dl ps p.b (candL ps s.2.2 p.k chain k 4) (none, p.b)).1 with | none => 0 | some b => s.2.2.getD b 0 + 1]) := by
  unfold stepW
  have h := tdL_best dl ps s.2.2 p.k p.b chain hdl k hk none p.b 0 (by omega)
  simp only [encO, Nat.sub_zero] at h
  rw [h]
  generalize bestL dl ps p.b (candL ps s.2.2 p.k chain k 4) (none, p.b) = r
  obtain ⟨o, ld⟩ := r
  cases o with
  | none => simp
  | some b => simp only [Option.map_some, Int.toNat_natCast]; rw [if_neg (by omega)]
/-- A pack of objects: its bytes, its places; the error. -/
def wrR (nm : Int → List UInt8 → List UInt8 × Int) (su : List UInt8 → List UInt8) (dl : List UInt8 → List UInt8 → List UInt8 × Int) (ps : List PIt) (chain : Int) : (List UInt8 × List PPl) × Int :=
  if chain < 0 ∨ 8 < chain then (([], []), 2)
  else if (namesR nm ps).2 ≠ 0 then (([], []), (namesR nm ps).2)
  else (((wrN dl ps chain ps.length).1 ++ su (wrN dl ps chain ps.length).1, plsOf (namesR nm ps).1 (wrN dl ps chain ps.length).2.1), 0)
/-- What Write tells. -/
def WrPost (w : World) (R : (List UInt8 × List PPl) × Int) (e : Ending) (w' : World) : Prop :=
  ∃ vb vp, e = .returned (.tuple #[vb, vp, .int .i64 R.2]) ∧ w'.ownsRow w.heap.size 5 1 vb R.1.1.length (bytesV R.1.1) ∧ w'.ownsRow w.heap.size 56 34 vp R.1.2.length (flatL R.1.2) ∧ (∀ q ∈ R.1.2, q.Ok) ∧ Below w.heap.size w w'
theorem nmL_len (nm : Int → List UInt8 → List UInt8 × Int) (ps : List PIt) (h : (nmL nm ps).2 = 0) : (nmL nm ps).1.length = ps.length ∧ ∀ p ∈ ps, (nm p.k p.b).2 = 0 := by
  induction ps with
  | nil => exact ⟨rfl, by simp⟩
  | cons p ps ih =>
    unfold nmL at h ⊢
    split at h
    · rename_i h1; exact absurd h h1
    · rename_i h1
      rw [if_neg h1]
      split at h
      · rename_i h2; exact absurd h h2
      · rename_i h2
        rw [if_neg h2]
        have := ih (by simpa using h2)
        refine ⟨by simp [this.1], fun q hq => ?_⟩
        rcases List.mem_cons.1 hq with e | e
        · rw [e]; simpa using h1
        · exact this.2 q e
theorem namesR_ok (nm : Int → List UInt8 → List UInt8 × Int) (ps : List PIt) (h : (namesR nm ps).2 = 0) : (namesR nm ps).1.length = ps.length ∧ ∀ p ∈ ps, (nm p.k p.b).2 = 0 := by
  unfold namesR at h ⊢
  split at h
  · rename_i h1; exact absurd h h1
  · rename_i h1
    rw [if_neg h1]
    split at h
    · cases h
    · rename_i h2
      rw [if_neg h2]
      exact nmL_len nm ps (by simpa using h1)

/-- An entry more. -/
theorem wrN_step (dl : List UInt8 → List UInt8 → List UInt8 × Int) (ids : List (List UInt8)) (ps : List PIt) (chain : Int) (k : Nat) (p : PIt) (id : List UInt8) (hp : ps[k]? = some p) (hid : ids[k]? = some id) (hdl : ∀ q ∈ ps, (dl q.b p.b).2 = 0) (h2 : (wrN dl ps chain k).2.1.length = k) :
    (wrN dl ps chain (k + 1)).1 = layE (wrN dl ps chain k).1 p.k (bestL dl ps p.b (candL ps (wrN dl ps chain k).2.2 p.k chain k 4) (none, p.b)).2 ((bestL dl ps p.b (candL ps (wrN dl ps chain k).2.2 p.k chain k 4) (none, p.b)).1.map fun b => (wrN dl ps chain k).1.length - (((plsOf ids (wrN dl ps chain k).2.1)[b]?).map PPl.at').getD 0)
    ∧ plsOf ids (wrN dl ps chain (k + 1)).2.1 = plsOf ids (wrN dl ps chain k).2.1 ++ [⟨idV id, (wrN dl ps chain k).1.length, crcI (bestL dl ps p.b (candL ps (wrN dl ps chain k).2.2 p.k chain k 4) (none, p.b)).2⟩]
    ∧ (wrN dl ps chain (k + 1)).2.2 = (wrN dl ps chain k).2.2 ++ [match (bestL dl ps p.b (candL ps (wrN dl ps chain k).2.2 p.k chain k 4) (none, p.b)).1 with | none => 0 | some b => (wrN dl ps chain k).2.2.getD b 0 + 1] := by
  have hkl := (List.getElem?_eq_some_iff.1 hp).1
  have hil := (List.getElem?_eq_some_iff.1 hid).1
  have hbp := bestL_prop dl ps p.b (candL ps (wrN dl ps chain k).2.2 p.k chain k 4) (none, p.b)
  have hct := candL_lt ps (wrN dl ps chain k).2.2 p.k chain k 4
  have e : wrN dl ps chain (k + 1) = stepW dl ps chain k p (wrN dl ps chain k) := by rw [wrN, hp]
  rw [e, stepW_best dl ps chain k p _ hdl (by omega)]
  have hob : ∀ b, (bestL dl ps p.b (candL ps (wrN dl ps chain k).2.2 p.k chain k 4) (none, p.b)).1 = some b → b < k := fun b hb => by
    rcases hbp.1 with h1 | ⟨c', hc', h1, _⟩
    · rw [h1] at hb; cases hb
    · rw [hb] at h1; injection h1 with h1; rw [h1]; exact (hct c' hc').1
  generalize bestL dl ps p.b (candL ps (wrN dl ps chain k).2.2 p.k chain k 4) (none, p.b) = r at hob
  refine ⟨?_, plsOf_snoc ids _ _ id (by rw [h2]; exact hid), rfl⟩
  simp only
  congr 1
  obtain ⟨o, l⟩ := r
  cases o with
  | none => rfl
  | some b => simp only [Option.map_some]; rw [plsOf_at ids _ b (by rw [h2]; exact hob b rfl) (by omega)]
theorem Pentry_step (dl : List UInt8 → List UInt8 → List UInt8 × Int) (w0 : World) (g : Nat) (v vp vd : Value) (IA : Option Addr) (c : Nat) (ids : List (List UInt8)) (ps : List PIt) (hil : ids.length = ps.length) (hi32 : ∀ x ∈ ids, x.length = 32) (chain : Int) (hc0 : 0 ≤ chain) (hc8 : chain ≤ 8) (k : Nat) (p : PIt) (id : List UInt8)
    (hp : ps[k]? = some p) (hid : ids[k]? = some id) (hkd : 0 ≤ p.k ∧ p.k ≤ 4) (hps : ps.length ≤ 600) (m : Nat) (hm : ∀ p ∈ ps, p.b.length ≤ m) (hm4 : m ≤ 4000) (hsz : 12 + ps.length * (25 + m) ≤ 1048544) (hdl : ∀ p ∈ ps, ∀ q ∈ ps, (dl p.b q.b).2 = 0)
    (hsc : ∀ j ∈ candL ps (wrN dl ps chain k).2.2 p.k chain k 4, ∀ q, ps[j]? = some q → ScSays dl q.b p.b)
    (w : World) (hF : Fr (fun _ => False) w0 w) (hi : Its w0 IA c ps) (hP : Pk w0.heap.size w g v vp vd (wrN dl ps chain k).1 IA ps.length c chain (plsOf ids (wrN dl ps chain k).2.1) (wrN dl ps chain k).2.2) :
    Calls Tryz.prog 24 #[.pointer (some ⟨g, 0, none⟩), .int .i64 k, .agg (idV id)] w (EtPost w0 w g (wrN dl ps chain (k + 1)).1 IA ps.length c chain (plsOf ids (wrN dl ps chain (k + 1)).2.1) (wrN dl ps chain (k + 1)).2.2) := by
  have hkl := (List.getElem?_eq_some_iff.1 hp).1
  have hpm := List.mem_of_getElem? hp
  obtain ⟨i0, i1, i2, i3, i4, i5⟩ := wrN_len dl ps chain m hm hdl hc0 k (by omega)
  obtain ⟨s1, s2, s3⟩ := wrN_step dl ids ps chain k p id hp hid (fun q hq => hdl q hq p hpm) i2
  rw [s1, s2, s3]
  have h0 := hi32 id (List.mem_of_getElem? hid)
  have hmul : k * (25 + m) ≤ ps.length * (25 + m) := Nat.mul_le_mul_right _ (by omega)
  refine Pentry_any dl w0 g v vp vd _ IA c ps chain _ _ k p (idV id) (idV_size id h0) (idV_one id) hp hkd i3 (by rw [plsOf_len ids _ (by omega)]; exact i2) (by omega) (by omega) (by have := hm p hpm; omega) hsc (fun x hx => ?_) (fun d hd => ?_) w hF hi hP
  · obtain ⟨s, hs, e⟩ := plsOf_mem hx
    have := i4 s hs
    omega
  · have := i5 d hd
    omega

set_option maxHeartbeats 12800000 in
set_option maxRecDepth 100000 in
theorem PWrite_any (nm : Int → List UInt8 → List UInt8 × Int) (su : List UInt8 → List UInt8) (dl : List UInt8 → List UInt8 → List UInt8 × Int) (hnl : ∀ k b, (nm k b).1.length = 32) (hsl : ∀ l, (su l).length = 32)
    (IA : Option Addr) (c : Nat) (ps : List PIt) (chain : Int) (hch : -9223372036854775808 ≤ chain ∧ chain ≤ 9223372036854775807) (m : Nat) (hm : ∀ p ∈ ps, p.b.length ≤ m) (hm4 : m ≤ 4000) (hps : ps.length ≤ 600) (hsz : 12 + ps.length * (25 + m) ≤ 1048544)
    (w : World) (hi : Its w IA c ps) (hnm : ∀ p ∈ ps, NmSays nm w p.k p.b) (hnk : ∀ p ∈ ps, (nm p.k p.b).2 = 0 → 0 ≤ p.k ∧ p.k ≤ 4) (hsu : SoSays su w) (hdl : ∀ p ∈ ps, ∀ q ∈ ps, (dl p.b q.b).2 = 0)
    (hsc : ∀ k p, ps[k]? = some p → ∀ j ∈ candL ps (wrN dl ps chain k).2.2 p.k chain k 4, ∀ q, ps[j]? = some q → ScSays dl q.b p.b) :
    Calls Tryz.prog 10 #[.slice IA ps.length c, .int .i64 chain] w (WrPost w (wrR nm su dl ps chain)) := by
  obtain ⟨R, hR⟩ : ∃ R, wrR nm su dl ps chain = R := ⟨_, rfl⟩
  rw [hR]
  unfold wrR at hR
  have none_ : ∀ (E : Int) w', R = (([], []), E) → Fr (fun _ => False) w w' → WrPost w R (.returned (.tuple #[.slice none 0 0, .slice none 0 0, .int .i64 E])) w' := fun E w' hE f => by
    subst hE
    exact ⟨_, _, rfl, World.ownsRow_nil _ _ _ _, World.ownsRow_nil _ _ _ _, by simp, f.below (fun _ _ e => e)⟩
  obtain ⟨hc0, hc1⟩ := hch
  have HNn := Lib.hid (Pnames_any nm hnl IA c ps hps w hi hnm)
  unfold NsPost at HNn
  have hok := namesR_ok nm ps
  obtain ⟨⟨ids, E⟩, hN⟩ : ∃ z, namesR nm ps = z := ⟨_, rfl⟩
  rw [hN] at hR HNn hok
  simp only at hR HNn hok
  have HI := Lib.hid hi
  have HDl := Lib.hid hdl
  have HSc := Lib.hid hsc
  have HNk := Lib.hid hnk
  have HMm := Lib.hid hm
  have HSu := Lib.hid (And.intro hsl hsu)
  have HNone := Lib.hid none_
  have HOk := Lib.hid hok
  obtain ⟨L, hL⟩ : ∃ L, ps.length = L := ⟨_, rfl⟩
  have HL := Lib.hid hL
  rw [hL] at hR HNn hps hsz ⊢
  clear hi hnm hdl hsc hnk hm hsl hsu none_ hok hN hL hnl
  by_cases hlo : chain < 0
  · rw [if_pos (Or.inl hlo)] at hR
    have HR := Lib.hid (HNone.out 2 w hR.symm (Fr.refl _ _))
    clear hR
    go_enter Tryz.func10, Tryz.ntmps10
    go_wp2_with fail
    go_ret3
    exact HR.out
  · by_cases hhi : 8 < chain
    · rw [if_pos (Or.inr hhi)] at hR
      have HR := Lib.hid (HNone.out 2 w hR.symm (Fr.refl _ _))
      clear hR
      go_enter Tryz.func10, Tryz.ntmps10
      go_wp2_with fail
      go_ret3
      exact HR.out
    · rw [if_neg (by omega)] at hR
      have hL6 : ¬ (600 : Int) < L := by omega
      by_cases hE : E = 0
      · subst hE
        rw [if_neg (by simp)] at hR
        obtain ⟨hil, hnk⟩ := HOk.out rfl
        rw [HL.out] at hil
        have HIl := Lib.hid hil
        rw [hil] at HNn
        have HK4 := Lib.hid (fun p (hp : p ∈ ps) => HNk.out p hp (hnk p hp))
        have HR := Lib.hid hR.symm
        clear hR hil hnk
        go_enter Tryz.func10, Tryz.ntmps10
        go_upto_region 8 with (go_at_call 22; refine HNn.out.mono ?_; rintro e w1 ⟨v1, rfl, o1, k1, b1⟩; have HO1 := Lib.hid o1; have HK1 := Lib.hid k1; have HF1 := Lib.hid (Fr.of_below (S := fun _ => False) b1); obtain ⟨A1, c1, hv1, -, -⟩ := own_slice o1; subst hv1; clear o1 k1 b1)
        go_upto_region 9 with fail
        have HIl32 := Lib.hid (show ∀ x ∈ ids, x.length = 32 from HK1.out)
        obtain ⟨w2, hw2⟩ : ∃ w2, w1.alloc (.cells #[.slice none 0 0, .slice IA L c, .int .i64 chain, .slice none 0 0, .slice none 0 0] 70) = w2 := ⟨_, rfl⟩
        rw [hw2]
        have HF2 := Lib.hid (show Fr (fun _ => False) w1 w2 by subst hw2; exact (Fr.refl _ _).alloc _)
        obtain ⟨g, hg⟩ : ∃ g, w1.heap.size = g := ⟨_, rfl⟩
        have HP2 := Lib.hid (show Pk w1.heap.size w2 g (.slice none 0 0) (.slice none 0 0) (.slice none 0 0) [] IA L c chain [] [] by
          subst hw2; subst hg
          exact ⟨⟨Whole.new _ _ _, World.ownsRow_nil _ _ _ _⟩, Nat.le_refl _, fun j hj => by simp [Value.ownBlock] at hj, by simp, World.ownsRow_nil _ _ _ _, World.ownsRow_nil _ _ _ _⟩)
        rw [hg]
        clear hw2 hg HK1
        go_upto_region 10 with (go_at_call 23; refine (Phead_any w1 g _ _ _ IA L c chain [] [] (by omega) w2 HF2.out HP2.out).mono ?_; rintro e w3 ⟨rfl, v3, p3, d3, pk3, f3⟩; have HP3 := Lib.hid pk3; have HF3 := Lib.hid f3; clear pk3 f3)
        have HLi := Lib.hid (Lies.of_ownJ HO1.out)
        have HIA := Lib.hid (show ∀ i, i < L → ∃ b o, A1 = some ⟨b, o, none⟩ from fun i hi => by
          rcases HLi.out with h | ⟨b, o, e, _⟩
          · exfalso
            have h1 : ids.length = L := HIl.out
            obtain ⟨x, hx⟩ : ∃ x, ids[0]? = some x := ⟨_, List.getElem?_eq_getElem (by omega)⟩
            have h2 := flatJ_get ids HIl32.out 0 0 x hx (by omega)
            have h3 := HIl32.out x (List.mem_of_getElem? hx)
            rw [h] at h2
            have : (bytesV x)[0]? = none := by simpa using h2.symm
            rw [List.getElem?_eq_none_iff] at this
            simp [bytesV, h3] at this
          · exact ⟨b, o, e⟩)
        go_wp2_with fail
        go_loopw [37] (fun s37 wr => ∃ (i : Nat) (v vp vd : Value), s37 = .int .i64 i ∧ i ≤ L ∧ Hid (Pk w1.heap.size wr g v vp vd (wrN dl ps chain i).1 IA L c chain (plsOf ids (wrN dl ps chain i).2.1) (wrN dl ps chain i).2.2) ∧ Hid (Fr (fun _ => False) w1 wr)) (fun i _ => L - (intOf i).toNat)
        case atStart => exact ⟨0, v3, p3, d3, rfl, by omega, Lib.hid (by have h := HP3.out; rw [show plsOf ids (wrN dl ps chain 0).2.1 = [] from plsOf_nil ids]; rw [← HL.out] at h ⊢; exact h), HF3⟩
        case round =>
          obtain ⟨i, v, vp, vd, rfl, hil, HP, HF⟩ := hrel
          by_cases hlt : i < L
          · have hi2 : (i : Int) < L := by omega
            obtain ⟨b, o, hA1⟩ := HIA.out i hlt
            subst hA1
            obtain ⟨p, hp⟩ : ∃ p, ps[i]? = some p := ⟨_, List.getElem?_eq_getElem (by have := HL.out; omega)⟩
            obtain ⟨id, hid⟩ : ∃ id, ids[i]? = some id := ⟨_, List.getElem?_eq_getElem (by have : ids.length = L := HIl.out; omega)⟩
            have hpm := List.mem_of_getElem? hp
            have HEn := Lib.hid (fun w' (f : Fr (fun _ => False) w1 w') (h : Pk w1.heap.size w' g v vp vd (wrN dl ps chain i).1 IA L c chain (plsOf ids (wrN dl ps chain i).2.1) (wrN dl ps chain i).2.2) =>
              Pentry_step dl w1 g v vp vd IA c ids ps (by rw [HL.out]; exact HIl.out) HIl32.out chain (by omega) (by omega) i p id hp hid (HK4.out p hpm) (by rw [HL.out]; omega) m HMm.out hm4 (by rw [HL.out]; exact hsz) HDl.out (HSc.out i p hp) w' f (HI.out.fr HF1.out) (by rw [HL.out]; exact h))
            have hid32 := HIl32.out id (List.mem_of_getElem? hid)
            have HRg := Lib.hid (fun w' (f : Fr (fun _ => False) w1 w') => range_idJ (HLi.out.fr f (fun _ _ e => e)) HIl32.out hid)
            have hVs := idV_size id hid32
            have hVo : (idV id).all (·.oneCell') = true := Array.all_eq_true_iff_forall_mem.2 (fun u hu => idV_one id u (by simpa using hu))
            have hN := wrN_len dl ps chain m HMm.out HDl.out (by omega) (i + 1) (by have := HL.out; omega)
            have hmul : (i + 1) * (25 + m) ≤ L * (25 + m) := Nat.mul_le_mul_right _ (by omega)
            have hX4 : (wrN dl ps chain (i + 1)).1.length ≤ 1048544 := by omega
            obtain ⟨N, hNN⟩ : ∃ N, wrN dl ps chain (i + 1) = N := ⟨_, rfl⟩
            rw [hNN] at hX4
            rw [hNN, HL.out] at HEn
            unfold EtPost at HEn
            obtain ⟨V, hV⟩ : ∃ V, idV id = V := ⟨_, rfl⟩
            rw [hV] at hVs hVo HEn HRg
            have HN := Lib.hid hNN
            clear hp hid hpm hid32 hN hmul hNN hV
            go_upto_region 13 with (first
              | (refine wpList_load_idP rfl _ rfl b (o + i * 32) (by go_num) V hVs (HRg.out _ (by first | exact HF.out | exact HF.out.alloc _)) ?_)
              | (refine wpList_store_at rfl 48 _ _ rfl wr.heap.size 0 48 _ V rfl rfl (Whole.new _ _ _) (by rw [hVs]; decide) (by rw [hVs]; exact sizeID) hVo ?_
                 intro w4 hw4 hf4
                 rw [laidAt_all _ _ (by rw [hVs]; rfl)] at hw4
                 have HF4 := Lib.hid (show Fr (fun _ => False) wr w4 from ((Fr.refl _ _).alloc _).trans hf4 (fun j hj e => by omega))
                 have HW4 := Lib.hid hw4
                 clear hw4 hf4))
            obtain ⟨gb, hgb⟩ : ∃ gb, wr.heap.size = gb := ⟨_, rfl⟩
            rw [hgb] at HW4 ⊢
            clear hgb
            have HFw4 := Lib.hid (HF.out.trans HF4.out (fun _ _ e => e))
            have HP4 := Lib.hid (HP.out.frF HF4.out)
            have hwi : IntKind.i64.wrap ((i : Int) + 1) = ((i + 1 : Nat) : Int) := by rw [IntKind.wrap_i64]; omega
            obtain ⟨XL, hXL⟩ : ∃ XL, N.1.length = XL := ⟨_, rfl⟩
            have HXL := Lib.hid hXL
            rw [hXL] at hX4
            have hX5 : ¬ (1048544 : Int) < XL := by omega
            clear hXL
            go_wp2_with (first
              | (refine wpList_load_row rfl 48 _ rfl gb rfl 48 V _ _ HW4.out Tryz.underlying48 rfl (by rw [hVs]; exact sizeID) ?_)
              | (go_at_call 24; refine (HEn.out w4 HFw4.out HP4.out).mono ?_; rintro e w5 ⟨rfl, v5, p5, d5, pk5, f5⟩; have HP5 := Lib.hid pk5; have HF5 := Lib.hid f5; clear pk5 f5)
              | (go_at_call 25; refine (WLen_any g v5 N.1 w5 HP5.out.wr).mono ?_; rintro e w6 ⟨rfl, rfl⟩; rw [HXL.out]))
            go_roundw
            case rel => exact ⟨i + 1, v5, p5, d5, by go_num, by omega, Lib.hid (by rw [HN.out]; exact HP5.out), HF5⟩
            case measure => simp [intOf]; omega
          · obtain rfl : i = L := by omega
            have hN := wrN_len dl ps chain m HMm.out HDl.out (by omega) i (by have := HL.out; omega)
            obtain ⟨N, hNN⟩ : ∃ N, wrN dl ps chain i = N := ⟨_, rfl⟩
            rw [hNN] at hN HP
            have hRr : R = ((N.1 ++ su N.1, plsOf ids N.2.1), 0) := by rw [HR.out, hNN]
            have HRr := Lib.hid hRr
            have hX : N.1.length ≤ 2000000 := by omega
            clear hN hNN hRr
            go_upto_region 18 with (go_at_call 26; refine (Ptrailer_any su HSu.out.1 w1 (fun A l w' f => HSu.out.2 A l w' (HF1.out.trans f (fun _ _ e => e))) g v vp vd N.1 IA i c chain _ _ hX wr HF.out HP.out).mono ?_; rintro e w8 ⟨rfl, v8, p8, d8, pk3, f3⟩; have HP8 := Lib.hid pk3; have HF8 := Lib.hid f3; clear pk3 f3)
            refine wp_region_held (S := fun w' => w'.cell? ⟨g, 3, none⟩ = some p8) (by kernel_rfl) ?_
            have HSq := Lib.hid (show w8.cell? ⟨g, 3, none⟩ = some p8 from HP8.out.cells.2.2.2.1)
            (
              refine wpAnyH_takeP (i := 0) (v := .pointer (some ⟨g, 0, none⟩)) 54 rfl rfl (by kernel_rfl) (by kernel_rfl) (by kernel_rfl) (fun _ _ _ h => h) (.inl ⟨by rfl, ?_⟩) HSq.out ?_
              · intro xw xf
                go_simp)
            (
              refine wpAnyH_takeP (i := 1) (v := .pointer (some ⟨g, 0, none⟩)) 55 rfl rfl (by kernel_rfl) (by kernel_rfl) (by kernel_rfl) (fun _ _ _ h => h) (.inl ⟨by rfl, ?_⟩) HSq.out ?_
              · intro xw xf
                go_simp)
            (
              refine wpAnyH_takeP (i := 2) (v := .pointer (some ⟨g, 0, none⟩)) 56 rfl rfl (by kernel_rfl) (by kernel_rfl) (by kernel_rfl) (fun _ _ _ h => h) (.inl ⟨by rfl, ?_⟩) HSq.out ?_
              · intro xw xf
                go_simp)
            (
              refine wpAnyH_takeP (i := 4) (v := .pointer (some ⟨g, 0, none⟩)) 58 rfl rfl (by kernel_rfl) (by kernel_rfl) (by kernel_rfl) (fun _ _ _ h => h) (.inl ⟨by rfl, ?_⟩) HSq.out ?_
              · intro xw xf
                go_simp)
            (
              refine wpAnyH_takeP (i := 5) (v := .pointer (some ⟨g, 0, none⟩)) 59 rfl rfl (by kernel_rfl) (by kernel_rfl) (by kernel_rfl) (fun _ _ _ h => h) (.inl ⟨by rfl, ?_⟩) HSq.out ?_
              · intro xw xf
                go_simp)
            (
              refine wpAnyH_takeP (i := 6) (v := .pointer (some ⟨g, 3, none⟩)) 60 rfl rfl (by kernel_rfl) (by kernel_rfl) (by kernel_rfl) (fun _ _ _ h => h) (.inl ⟨by rfl, ?_⟩) HSq.out ?_
              · intro xw xf
                go_simp)
            (
              refine wpAnyH_takeP (i := 7) (v := p8) 61 rfl rfl (by kernel_rfl) (by kernel_rfl) (by kernel_rfl) (fun _ _ _ h => h) (.inl ⟨by rfl, ?_⟩) HSq.out ?_
              · intro xw xf
                go_simp)
            (
              change wpAnyH _ _ _ _ _ _ _ _ (World.drew w8)
              have HFd := Lib.hid (show Fr (fun _ => False) w8 (World.drew w8) from (Fr.refl _ w8).drew)
              obtain ⟨wd, hwd⟩ : ∃ wd, World.drew w8 = wd := ⟨_, rfl⟩
              rw [hwd]
              rw [hwd] at HFd
              clear hwd HSq)
            have HPd := Lib.hid (HP8.out.frF HFd.out)
            have HBd := Lib.hid (WBytes_any g v8 (N.1 ++ su N.1) wd HPd.out.wr (by rw [List.length_append, HSu.out.1]; omega))
            unfold OwnPost at HBd
            (
              try simp only [List.setIfInBounds_toArray, List.set_cons_succ, List.set_cons_zero]
              refine wpAnyH_all (rs := [3]) (by kernel_rfl) (by simp) ?_
              intro i hi
              simp only [List.mem_cons, List.not_mem_nil, or_false] at hi
              subst hi)
            refine wpOp_step rfl (fun K hK => ?_)
            go_simp
            go_wp2_with (go_at_call 27; refine HBd.out.mono ?_; rintro e w9 ⟨vb, rfl, ob, bb⟩; have HB9 := Lib.hid ob; have HF9 := Lib.hid (Fr.of_below (S := fun _ => False) bb); clear ob bb)
            have HSq := Lib.hid (show w9.cell? ⟨g, 3, none⟩ = some p8 from (HPd.out.frF HF9.out).cells.2.2.2.1)
            refine ⟨HSq.out, ?_⟩
            (
              refine wpAnyH_takeP (i := 8) (v := vb) 4 rfl rfl (by kernel_rfl) (by kernel_rfl) (by kernel_rfl) (fun _ _ _ h => h) (.inl ⟨by rfl, ?_⟩) HSq.out ?_
              · intro xw xf
                go_simp)
            (
              refine wpAnyH_takeP (i := 9) (v := p8) 5 rfl rfl (by kernel_rfl) (by kernel_rfl) (by kernel_rfl) (fun _ _ _ h => h) (.inl ⟨by rfl, ?_⟩) HSq.out ?_
              · intro xw xf
                go_simp)
            (
              refine wpAnyH_takeP (i := 10) (v := .int .i64 0) 6 rfl rfl (by kernel_rfl) (by kernel_rfl) (by kernel_rfl) (fun _ _ _ h => h) (.inl ⟨by rfl, ?_⟩) HSq.out ?_
              · intro xw xf
                go_simp)
            refine wpAnyH_done (by kernel_rfl) ?_ _
            go_wp2_with fail
            go_ret3
            have HF0 := Lib.hid (((HF1.out.trans HF8.out (fun _ _ e => e)).trans HFd.out (fun _ _ e => e)))
            have hP9 := HPd.out.frF HF9.out
            rw [HRr.out]
            exact ⟨vb, p8, rfl, own_lowerP HB9.out HF0.out.size, own_lowerP hP9.pl HF1.out.size, hP9.ok, (HF0.out.trans HF9.out (fun _ _ e => e)).below (fun _ _ e => e)⟩
      · rw [if_pos hE] at hR
        have HR := Lib.hid hR.symm
        have hE' : (E != 0) = true := by simpa using hE
        clear hR hE
        go_enter Tryz.func10, Tryz.ntmps10
        go_wp2_with (go_at_call 22; refine HNn.out.mono ?_; rintro e w1 ⟨v1, rfl, o1, k1, b1⟩; have HF1 := Lib.hid (Fr.of_below (S := fun _ => False) b1); obtain ⟨A1, c1, hv1, -, -⟩ := own_slice o1; subst hv1; clear o1 k1 b1)
        go_ret3
        exact HNone.out E w1 HR.out HF1.out
end Go.Proofs.YtkaeoflgnnlbeaaGreatDoor

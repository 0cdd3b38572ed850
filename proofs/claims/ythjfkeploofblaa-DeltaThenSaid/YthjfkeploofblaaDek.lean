/- What is proved: the map of where each part of six bytes begins in a base, by the program. Conditions: the bytes are there. -/
import Derived.Test.YthjfkeploofblaaDeh
import Derived.Test.YthjfkeploofblaaDei
import Derived.Test.YthjfkeploofblaaDej
namespace Go.Proofs.Ythjfkeploofblaa
open Go.RowKit
set_option linter.unusedVariables false

/-- Where, of the first n places, a part of six bytes begins. -/
def plc (base : List UInt8) (n : Nat) (k : List UInt8) : List Nat := (List.range n).filter fun j => (base.drop j).take 6 = k
theorem plc_succ (base : List UInt8) (n : Nat) : ∀ k, plc base (n + 1) k = gUpd (plc base n) ((base.drop n).take 6) (plc base n ((base.drop n).take 6) ++ [n]) k := by
  intro k
  unfold gUpd plc
  rw [List.range_succ, List.filter_append]
  split
  · rename_i h; subst h; simp
  · rename_i h
    rw [List.filter_cons_of_neg (by simp; exact fun e => h e.symm)]
    simp
theorem plc_len (base : List UInt8) (n : Nat) (k : List UInt8) : (plc base n k).length ≤ n := by
  have := List.length_filter_le (fun j => decide ((base.drop j).take 6 = k)) (List.range n)
  simpa [plc] using this

theorem infoInt : (Try.prog.info? 3).map (fun i => (i.zero, i.size, i.bytes)) = some (some (.int .i64 0), 1, 8) := by kernel_rfl
theorem arr6 (A : Option Addr) (n c : Nat) (h : 6 ≤ n) (w : World) : (Instr.arrayAt 109 (.slice A n c)).run Try.prog w = .ok (.pointer A) w := by
  have hn : ¬ n < 6 := by omega
  simp [Instr.arrayAt, run_underlying under6, hn]

theorem wpList_mapEntry6 {w : World} {ops : Array Oper} {rest : List Oper} {o : Oper} {a : Act} {Q : Exit → Act → World → Prop} (hg : o.guard = none) (m x : Operand) (hop : o.op = Op.mapEntry 86 m x)
    {base b : Nat} {G : List UInt8 → List Nat} (h : MapIs w base b G) (k : List UInt8) (hk : k.length = 6) (hm : a.eval m = .map (some b)) (hx : a.eval x = keyV k)
    (hK : ∀ v st w1, Fr (fun j => j = b) w w1 → w1.heap.size = w.heap.size → w1.ownsRow base 3 1 v (G k).length (natsV (G k)) → MapBack w1 base b st v G k → wpList Try.prog ops Q rest (a.put o.dst (.tuple #[v, .int .i64 st])) w1) : wpList Try.prog ops Q (o :: rest) a w := by
  refine wpList_plain hg fun K' hK' => ?_
  obtain ⟨v, st, w1, hrun, h1, h2, h3, h4⟩ := map_entry h k hk
  unfold Oper.wp
  simp [execOp, hop, hm, hx, hrun, Result.andThen]
  exact hK' _ _ (hK v st w1 h1 h2 h3 h4)
theorem wpList_entryStore6 {w : World} {ops : Array Oper} {rest : List Oper} {o : Oper} {a : Act} {Q : Exit → Act → World → Prop} (hg : o.guard = none) (m s x : Operand) (hop : o.op = Op.entryStore 86 m s x)
    {w1 : World} {base b st : Nat} {v v' : Value} {G : List UInt8 → List Nat} {k : List UInt8} {ns' : List Nat} (hback : MapBack w1 base b st v G k) (hm : a.eval m = .map (some b)) (hs : a.eval s = .int .i64 st) (hx : a.eval x = v')
    (hf : Fr (fun j => v.ownBlock = some j) w1 w) (ho : w.ownsRow base 3 1 v' ns'.length (natsV ns')) (hl : v'.ownBlock = v.ownBlock ∨ ∃ g, v'.ownBlock = some g ∧ w1.heap.size ≤ g)
    (hK : ∀ w3, Fr (fun j => j = b) w w3 → MapIs w3 base b (gUpd G k ns') → wpList Try.prog ops Q rest (a.put o.dst undef) w3) : wpList Try.prog ops Q (o :: rest) a w := by
  refine wpList_plain hg fun K' hK' => ?_
  obtain ⟨w3, hrun, h1, h2⟩ := hback w v' ns' hf ho hl
  unfold Oper.wp
  simp [execOp, hop, hm, hx, hs, hrun, Result.andThen]
  exact hK' _ _ (hK w3 h1 h2)

theorem nats_snoc {w : World} {base M k : Nat} {v : Value} {ns : List Nat} (hM : ns.length = M) (h : w.ownsRow base 3 1 v (M + 1) (natsV ns ++ [.int .i64 k])) : w.ownsRow base 3 1 v (ns ++ [k]).length (natsV (ns ++ [k])) := by
  subst hM
  rw [natsV_append, List.length_append]
  exact h

set_option maxHeartbeats 3200000 in
set_option maxRecDepth 100000 in
theorem DpartsOf_any (A : Option Addr) (c : Nat) (xs : List UInt8) (h1 : xs.length ≤ 4000) (hc : xs.length ≤ c) (w : World) (ha : Lies w A (bytesV xs)) :
    Calls Try.prog 45 #[.slice A xs.length c] w fun e w' => e = .returned (.map (some w.heap.size)) ∧ Below w.heap.size w w' ∧ MapIs w' (w.heap.size + 1) w.heap.size (plc xs (xs.length - 5)) := by
  have hmk : ∀ (v : Int) (w : World), (Instr.makeMap 86 (some (.int .i64 v))).run Try.prog w = .ok (.map (some w.heap.size)) (w.alloc (.map #[] 0)) := fun v w => by
    simp [Instr.makeMap, run_underlying underM, asInt, asIntOf]
  obtain ⟨X, hX⟩ : ∃ X, xs.length = X := ⟨_, rfl⟩
  have HX := Lib.hid hX
  rw [hX] at h1 hc ⊢
  obtain ⟨w1, hw1⟩ : ∃ w1, w.alloc (.map #[] 0) = w1 := ⟨_, rfl⟩
  have F1 : Fr (fun _ => False) w w1 := by subst hw1; exact (Fr.refl _ _).alloc _
  have hs1 : w1.heap.size = w.heap.size + 1 := by subst hw1; simp
  have HM := Lib.hid (show MapIs w1 (w.heap.size + 1) w.heap.size (plc xs 0) from MapIs.congr (by subst hw1; exact MapIs.made w) (fun k _ => rfl))
  have HF1 := Lib.hid F1
  have HS1 := Lib.hid hs1
  have HA := Lib.hid (ha.fr F1 (fun _ _ e => e))
  have HAw := Lib.hid ha
  obtain ⟨i0, hi, hz0, hz1, hz2⟩ := info_parts infoInt
  clear F1 hs1 ha hX
  go_enter Try.func45, Try.ntmps45
  go_wp2_with fail
  go_loopw [13] (fun i wr => ∃ (k : Nat), k ≤ X - 5 ∧ i = .int .i64 k ∧ Hid (MapIs wr (w.heap.size + 1) w.heap.size (plc xs k)) ∧ Hid (Fr (fun j => w.heap.size ≤ j) w wr)) (fun i _ => X - (intOf i).toNat)
  case atStart => exact ⟨0, by omega, rfl, HM, Lib.hid (HF1.out.mono (fun _ _ e => e.elim))⟩
  case round =>
    obtain ⟨k, hk, rfl, HMr, HF⟩ := hrel
    have hk1 : (0 : Int) ≤ k := by omega
    by_cases hlt : k < X - 5
    · have hk2 : (k : Int) < (X : Int) - 6 + 1 := by omega
      have hk3 : (k : Int) ≤ X := by omega
      have hFb := HF.out.below (fun i hi e => by omega)
      have HAr := (HAw.out.fr (Fr.of_below (S := fun _ => False) hFb) (fun _ _ e => e))
      have hl6 : ((xs.drop k).take 6).length = 6 := by rw [List.length_take, List.length_drop, HX.out]; omega
      obtain ⟨kk, hkk⟩ : ∃ kk, (xs.drop k).take 6 = kk := ⟨_, rfl⟩
      have hL2 : Lies wr (tlB A c k) (bytesV kk) := by rw [← hkk]; exact HAr.cutB c k 6 (by rw [HX.out]; exact hc)
      have HKK := Lib.hid hkk
      rw [hkk] at hl6
      obtain ⟨bb, bo, hT⟩ := hL2.someB (by omega)
      have hsl : ∀ w, (Instr.slice 26 (.slice A X c) (some (.int .i64 k)) none none).run Try.prog w = .ok (.slice (some ⟨bb, bo, none⟩) (X - k) (c - k)) w := fun w => by rw [slice_tlB A X c k (by omega) w, hT]
      obtain ⟨N2, hN2⟩ : ∃ N2, X - k = N2 := ⟨_, rfl⟩
      rw [hN2] at hsl
      have harr : ∀ w, (Instr.arrayAt 109 (.slice (some ⟨bb, bo, none⟩) N2 (c - k))).run Try.prog w = .ok (.pointer (some ⟨bb, bo, none⟩)) w := fun w => arr6 _ _ _ (by omega) w
      rw [hT] at hL2
      match kk, hl6 with
      | [b0, b1, b2, b3, b4, b5], _ =>
        have q0 : wr.cell? ⟨bb, bo, none⟩ = some (.int .u8 b0.toNat) := by have := hL2.byteAt (j := 0) (c := b0) rfl; obtain ⟨_, _, e, h⟩ := this; cases e; exact h
        have q1 : wr.cell? ⟨bb, bo + 1, none⟩ = some (.int .u8 b1.toNat) := by have := hL2.byteAt (j := 1) (c := b1) rfl; obtain ⟨_, _, e, h⟩ := this; cases e; exact h
        have q2 : wr.cell? ⟨bb, bo + 2, none⟩ = some (.int .u8 b2.toNat) := by have := hL2.byteAt (j := 2) (c := b2) rfl; obtain ⟨_, _, e, h⟩ := this; cases e; exact h
        have q3 : wr.cell? ⟨bb, bo + 3, none⟩ = some (.int .u8 b3.toNat) := by have := hL2.byteAt (j := 3) (c := b3) rfl; obtain ⟨_, _, e, h⟩ := this; cases e; exact h
        have q4 : wr.cell? ⟨bb, bo + 4, none⟩ = some (.int .u8 b4.toNat) := by have := hL2.byteAt (j := 4) (c := b4) rfl; obtain ⟨_, _, e, h⟩ := this; cases e; exact h
        have q5 : wr.cell? ⟨bb, bo + 5, none⟩ = some (.int .u8 b5.toNat) := by have := hL2.byteAt (j := 5) (c := b5) rfl; obtain ⟨_, _, e, h⟩ := this; cases e; exact h
        obtain ⟨w3, hbx⟩ : ∃ w3, wr.alloc (.cells #[.int .u8 b0.toNat, .int .u8 b1.toNat, .int .u8 b2.toNat, .int .u8 b3.toNat, .int .u8 b4.toNat, .int .u8 b5.toNat] 109) = w3 := ⟨_, rfl⟩
        have HF3 := Lib.hid (show Fr (fun _ => False) wr w3 from by subst hbx; exact (Fr.refl _ _).alloc _)
        have W3 : Whole w3 wr.heap.size 109 #[.int .u8 b0.toNat, .int .u8 b1.toNat, .int .u8 b2.toNat, .int .u8 b3.toNat, .int .u8 b4.toNat, .int .u8 b5.toNat] := by subst hbx; exact Whole.new _ _ _
        have e0 : w3.cell? ⟨wr.heap.size, 0, none⟩ = some (.int .u8 b0.toNat) := by rw [W3.cell]; rfl
        have e1 : w3.cell? ⟨wr.heap.size, 1, none⟩ = some (.int .u8 b1.toNat) := by rw [W3.cell]; rfl
        have e2 : w3.cell? ⟨wr.heap.size, 2, none⟩ = some (.int .u8 b2.toNat) := by rw [W3.cell]; rfl
        have e3 : w3.cell? ⟨wr.heap.size, 3, none⟩ = some (.int .u8 b3.toNat) := by rw [W3.cell]; rfl
        have e4 : w3.cell? ⟨wr.heap.size, 4, none⟩ = some (.int .u8 b4.toNat) := by rw [W3.cell]; rfl
        have e5 : w3.cell? ⟨wr.heap.size, 5, none⟩ = some (.int .u8 b5.toNat) := by rw [W3.cell]; rfl
        obtain ⟨w4, hbx4⟩ : ∃ w4, w3.alloc (.cells #[.int .i64 k] 3) = w4 := ⟨_, rfl⟩
        have HF4 := Lib.hid (show Fr (fun _ => False) w3 w4 from by subst hbx4; exact (Fr.refl _ _).alloc _)
        have W4 : Whole w4 w3.heap.size 3 #[.int .i64 k] := by subst hbx4; exact Whole.new _ _ _
        have HW4 := Lib.hid W4
        have hs4 : w4.heap.size = w3.heap.size + 1 := by subst hbx4; simp
        have HS4 := Lib.hid hs4
        have HM4 := Lib.hid ((HMr.out.fr HF3.out).fr HF4.out)
        have HKV : Hid (keyV [b0, b1, b2, b3, b4, b5] = .agg #[.int .u8 b0.toNat, .int .u8 b1.toNat, .int .u8 b2.toNat, .int .u8 b3.toNat, .int .u8 b4.toNat, .int .u8 b5.toNat]) := Lib.hid rfl
        have HSz := Lib.hid (show w.heap.size < wr.heap.size ∧ wr.heap.size ≤ w3.heap.size from ⟨by
          obtain ⟨es, clock, hb, _⟩ := HMr.out
          exact (Array.getElem?_eq_some_iff.1 hb).1, HF3.out.size⟩)
        have HPl := Lib.hid (plc_len xs k [b0, b1, b2, b3, b4, b5])
        have HPs := Lib.hid (plc_succ xs k)
        obtain ⟨G, hG⟩ : ∃ G, plc xs k = G := ⟨_, rfl⟩
        rw [hG] at HM4 HPl HPs
        obtain ⟨M, hM⟩ : ∃ M, (G [b0, b1, b2, b3, b4, b5]).length = M := ⟨_, rfl⟩
        have HMl := Lib.hid hM
        have hMk : M ≤ k := by have := HPl.out; omega
        clear W3 W4 hs4 hG hM hT hkk hL2 hFb HAr
        go_wp2_with (first
          | (refine wpList_entryStore6 rfl (.tmp 21) (.tmp 28) (.tmp 27) rfl HBk.out rfl rfl rfl HF6.out HO6.out HLo.out ?_
             intro w7 f7 m7
             have HF7 := Lib.hid f7
             have HM7 := Lib.hid m7
             clear f7 m7)
          | (refine wpList_mapEntry6 rfl (.tmp 21) (.tmp 22) rfl HM4.out [b0, b1, b2, b3, b4, b5] rfl rfl (by rw [HKV.out]; rfl) ?_
             intro v st w5 f5 s5 o5 bk5
             have HF5 := Lib.hid f5
             have HS5 := Lib.hid s5
             have HBk := Lib.hid bk5
             rw [HMl.out] at o5
             have HO5 := Lib.hid o5
             have HSr := Lib.hid (show Src Try.prog 1 110 (.slice (some ⟨w3.heap.size, 0, none⟩) 1 1) 1 [.int .i64 k] w5 from
               Src.ofSlice _ Try.underlying110 ⟨w3.heap.size, 0, none⟩ 1 1 [.int .i64 k] rfl (fun j u hu => by
                 have hj : j = 0 := by have := (List.getElem?_eq_some_iff.1 hu).1; simp at this; exact this
                 subst hj
                 simp at hu
                 subst hu
                 rw [add_off, Nat.zero_add, (HW4.out.fr f5 (fun e => by have := HSz.out; omega)).cell]
                 rfl) (fun u hu => by rw [List.mem_singleton.1 hu]; rfl))
             obtain ⟨Av, cv, hv, -, -⟩ := own_slice o5
             subst hv
             clear f5 s5 o5 bk5)
          | (at_builtin; refine wpList_append_row _ rfl (.tmp 23) (.tmp 25) 110 110 rfl (w.heap.size + 1) 3 i0 (.int .i64 0) 1 8 Try.underlying110 hi hz0 hz1 hz2 rfl _ M _ rfl HO5.out _ 1 _ rfl HSr.out (by unfold maxLen; omega) (by omega) (by have := HSz.out; have := HS4.out; have := HS5.out; omega) ?_
             intro v6 w6 o6 g6 at6
             obtain ⟨A6, k6, hv6, _, _⟩ := own_slice o6
             subst hv6
             have HO6 := Lib.hid (nats_snoc HMl.out o6)
             have HF6 := Lib.hid (show Fr (fun j => Value.ownBlock (.slice Av M cv) = some j) w5 w6 from (Fr.refl _ w5).grown g6 (fun j hj _ => hj))
             have HLo := Lib.hid (at6.imp id (fun e => (⟨_, e, Nat.le_refl _⟩ : ∃ g, Value.ownBlock (.slice A6 (M + 1) k6) = some g ∧ w5.heap.size ≤ g)))
             clear o6 g6 at6))
        go_roundw
        case rel =>
          have h0 := HSz.out
          refine ⟨k + 1, by omega, by go_num, Lib.hid (MapIs.congr HM7.out (fun k' _ => ?_)), Lib.hid ?_⟩
          · rw [HPs.out k', HKK.out]
          · refine ((((HF.out.trans HF3.out (fun i hi e => e.elim)).trans HF4.out (fun i hi e => e.elim)).trans HF5.out (fun i hi e => by omega)).trans HF6.out (fun i hi e => ?_)).trans HF7.out (fun i hi e => by omega)
            have := (World.ownsRow.lt HO5.out i e).1
            omega
        case measure => simp [intOf]; omega
    · obtain rfl : k = X - 5 := by omega
      have hk2 : ¬ (((X - 5 : Nat) : Int)) < (X : Int) - 6 + 1 := by omega
      go_wp2_with fail
      go_ret
      exact ⟨rfl, HF.out.below (fun i hi e => by omega), HMr.out⟩
end Go.Proofs.Ythjfkeploofblaa

/- What is proved: an object's id, by the program and by the document. Conditions: the listed tables lie as their text lays them; the body's cells are there. -/
import Derived.Test.YtnnafiajfapenaaGreatDoorObe
import Derived.Test.YtnnafiajfapenaaGreatDoorBra
import Derived.Test.YtnnafiajfapenaaGreatDoorBq
import Derived.Laws.StructEq
namespace Go.Proofs.YtnnafiajfapenaaGreatDoor
open Go.RowKit Go.Sort Go.Shelf
set_option linter.unusedVariables false

theorem run_equal_sameO {P : Program} (w : World) (d : Nat) (t e : TypeId) (n : Nat) (k : IntKind) (ht : P.underlying t = some (.array n e)) (he : P.underlying e = some (.int k)) (hsz : ∀ w, (sizeOf e).run P w = .ok 1 w)
    (zs : List Int) (hz : zs.length = n) : (Op.equalIn (d + 2) t (.agg (zs.map (Value.int k)).toArray) (.agg (zs.map (Value.int k)).toArray)).run P w = .ok true w := by
  rw [Op.equalIn]
  simp only [Sem.run_bind, run_underlying ht, Result.andThen_ok, hsz, Std.Legacy.Range.forIn_eq_forIn_range', Std.Legacy.Range.size, Nat.sub_zero, Nat.add_sub_cancel, Nat.div_one]
  have hl : ∀ i ∈ List.range' 0 n 1, i < n := fun i hi => by simpa using (List.mem_range'_1.1 hi).2
  generalize List.range' 0 n 1 = l at hl ⊢
  induction l with
  | nil => simp
  | cons i l ih =>
    have hi : i < n := hl i (by simp)
    have px : (part e (zs.map (Value.int k)).toArray (i * 1)).run P w = .ok (.int k (zs.getD i 0)) w := by
      simp [part, isAgg, run_underlying he, List.getD, List.getElem?_eq_getElem (show i < zs.length by omega)]
    have pe : (Op.equalIn (d + 1) e (.int k (zs.getD i 0)) (.int k (zs.getD i 0))).run P w = .ok true w := by
      rw [run_equalIn_int w d e k k _ _ he]
      simp
    simp only [List.forIn_cons, Sem.run_bind, px, pe, Result.andThen_ok]
    simp only [Bool.not_true, Bool.false_eq_true, if_false, Sem.run_pure, Result.andThen_ok]
    exact ih fun j hj => hl j (by simp [hj])
theorem eq32O (zs : List Int) (hz : zs.length = 32) (w : World) : (Op.equalIn 10000 41 (.agg (zs.map (Value.int .u8)).toArray) (.agg (zs.map (Value.int .u8)).toArray)).run Tryz.prog w = .ok true w :=
  run_equal_sameO (P := Tryz.prog) w 9998 41 5 32 .u8 Tryz.underlying41 Tryz.underlying5 (fun _ => by kernel_rfl) zs hz
theorem eqSumO (l : List UInt8) (w : World) : (Op.equalIn 10000 41 (.agg (sumV l)) (.agg (sumV l))).run Tryz.prog w = .ok true w := by
  have e : sumV l = (((List.range 32).map (idN (stOf (l ++ padB l.length)))).map (Value.int .u8)).toArray := by simp [sumV, idC, List.map_map]
  rw [e]
  exact eq32O _ (by simp) w
theorem eqZeroO (w : World) : (Op.equalIn 10000 41 (.agg zero32) (.agg zero32)).run Tryz.prog w = .ok true w := by
  have e : zero32 = ((List.replicate 32 (0 : Int)).map (Value.int .u8)).toArray := rfl
  rw [e]
  exact eq32O _ (by simp) w
theorem zeroID_build (w : World) : (Instr.build 41 #[]).run Tryz.prog w = .ok (.agg zero32) w := by kernel_rfl

theorem zero32_all : zero32.all (·.oneCell') = true := by kernel_rfl
/-- An object's id. -/
def nameV (k : Int) (l : List UInt8) : Array Value := if chkO k l = 0 then sumV (objB k l) else zero32
theorem nameV_size (k : Int) (l : List UInt8) : (nameV k l).size = 32 := by
  unfold nameV; split
  · exact sumV_size _
  · rfl
theorem nameV_one (k : Int) (l : List UInt8) : (nameV k l).all (·.oneCell') = true := by
  unfold nameV; split
  · exact sumV_one _
  · exact zero32_all
theorem eqName (k : Int) (l : List UInt8) (w : World) : (Op.equalIn 10000 41 (.agg (nameV k l)) (.agg (nameV k l))).run Tryz.prog w = .ok true w := by
  unfold nameV; split
  · exact eqSumO _ w
  · exact eqZeroO w
theorem chkO_len {k : Int} {l : List UInt8} (h : chkO k l = 0) : l.length ≤ 4000 := by
  by_cases hk : k < 1 ∨ 4 < k
  · rw [chkO_bad hk] at h; cases h
  · by_cases h2 : 4000 < l.length
    · rw [chkO_long hk h2] at h; cases h
    · omega
theorem objB_ok {k : Int} {l : List UInt8} (h : chkO k l = 0) : objB k l = headB k l.length ++ l := by rw [objB, if_pos h]
theorem objB_le (k : Int) (l : List UInt8) : (objB k l).length ≤ 4040 := by
  by_cases h : chkO k l = 0
  · have h2 := chkO_len h
    have h3 := headB_len k l.length (by omega)
    rw [objB_ok h, List.length_append]; omega
  · rw [objB, if_neg h]; exact Nat.zero_le _

set_option maxHeartbeats 3200000 in
set_option maxRecDepth 100000 in
theorem ObName_any (k : Int) (A : Option Addr) (c : Nat) (l : List UInt8) (hcap : l.length ≤ c) (hm : l.length ≤ 9223372036854775807) (w : World) (h : Lies w A (bytesV l)) (hTab : Tab10 w) (hK : Tab w) :
    Calls Tryz.prog 19 #[.int .i64 k, .slice A l.length c] w fun e w' => e = .returned (.tuple #[.agg (nameV k l), .int .i64 (chkO k l)]) ∧ Fr (fun _ => False) w w' := by
  obtain ⟨w1, hw1⟩ : ∃ w1, w.alloc (.cells zero32 41) = w1 := ⟨_, rfl⟩
  have hF : Fr (fun _ => False) w w1 := by subst hw1; exact (Fr.refl _ w).alloc _
  have hZ : Whole w1 w.heap.size 41 zero32 := by subst hw1; exact Whole.new w 41 zero32
  have hL1 := h.fr hF (fun _ _ e => e)
  have HC := Lib.hid (ObCheck_any k A c l hcap w1 hL1)
  have HL := Lib.hid (fun w' (f : Fr (fun _ => False) w1 w') => hL1.fr f (fun _ _ e => e))
  have HH := Lib.hid (fun w' (f : Fr (fun _ => False) w1 w') => Obhead_any k l.length (by omega) w' ((hTab.fr hF).fr f))
  have HK := Lib.hid (fun w' (f : Fr (fun _ => False) w1 w') => (hK.fr hF (fun e => e)).fr f (fun e => e))
  have hhl := headB_len k l.length (by omega)
  have HF := Lib.hid hF
  have HZ := Lib.hid hZ
  have HBZ := Lib.hid zeroID_build
  have HN0 : Hid (chkO k l = 0 → nameV k l = sumV ([headB k l.length, l].flatten) ∧ l.length ≤ 4000) := Lib.hid (fun e => ⟨by rw [nameV, if_pos e, objB_ok e]; simp, chkO_len e⟩)
  have HN1 : Hid (chkO k l ≠ 0 → nameV k l = zero32) := Lib.hid (fun e => by rw [nameV, if_neg e])
  have hvs := nameV_size k l
  have hvo := nameV_one k l
  have HSO : Hid (l.length ≤ 4000 → ∀ (w4 : World) (A2 : Option Addr) (hp : Parts w4 A2 [headB k l.length, l]) (ht : Tab w4), Calls Tryz.prog 34 #[.slice A2 2 2] w4 fun e w' => e = .returned (.agg (sumV [headB k l.length, l].flatten)) ∧ Below w4.heap.size w4 w') := Lib.hid (fun hl4 w4 A2 hp ht => SOf_any A2 2 [headB k l.length, l] w4 hp (by show 2 ≤ 9223372036854775807; decide) ht (by simp; omega))
  obtain ⟨V, hV⟩ : ∃ V, nameV k l = V := ⟨_, rfl⟩
  rw [hV] at HN0 HN1 hvs hvo ⊢
  obtain ⟨r, hr⟩ : ∃ r, chkO k l = r := ⟨_, rfl⟩
  rw [hr] at HC HN0 HN1 ⊢
  obtain ⟨H, hH⟩ : ∃ H, headB k l.length = H := ⟨_, rfl⟩
  rw [hH] at HH hhl HN0 HSO
  obtain ⟨n, hn⟩ : ∃ n, l.length = n := ⟨_, rfl⟩
  have HNn := Lib.hid hn
  have HCP := Lib.hid hcap
  rw [hn] at HC HH HN0 HSO hm hcap ⊢
  unfold zero32 at hw1
  simp [List.replicate] at hw1
  clear hV hr hH hn h hTab hK hL1 hF hZ hcap
  by_cases hr0 : r = 0
  · subst hr0
    obtain ⟨hve, hn4⟩ := HN0.out (by first | rfl | trivial)
    have HSO := Lib.hid (HSO.out hn4)
    rw [← hve] at HSO
    have HPT : Hid (∀ (w3 : World) (A3 : Option Addr) (c3 : Nat), H.length ≤ c3 → Lies w3 A3 (bytesV H) → Fr (fun _ => False) w1 w3 → Parts (w3.alloc (.cells #[.slice A3 H.length c3, .slice A n c] 22)) (some ⟨w3.heap.size, 0, none⟩) [H, l]) := Lib.hid (fun w3 A3 c3 hc3 hl3 f3 => by
      refine .inr ⟨w3.heap.size, 0, rfl, fun i p hi => ?_⟩
      have hcell := fun j => (Whole.new w3 22 #[.slice A3 H.length c3, .slice A n c]).cell j
      have hfa : Fr (fun _ => False) w3 (w3.alloc (.cells #[.slice A3 H.length c3, .slice A n c] 22)) := (Fr.refl _ w3).alloc _
      rw [Nat.zero_add, hcell]
      match i, hi with
      | 0, hi => injection hi with hi; subst hi; exact ⟨_, _, rfl, hc3, hl3.fr hfa (fun _ _ e => e)⟩
      | 1, hi => injection hi with hi; subst hi; exact ⟨_, _, by rw [HNn.out]; rfl, HCP.out, (HL.out w3 f3).fr hfa (fun _ _ e => e)⟩)
    clear hve
    go_enter Tryz.func19, Tryz.ntmps19
    go_wp2_with (first
      | (go_at_call 11; refine HC.out.mono ?_; rintro e w2 ⟨rfl, f2⟩; have F2 := Lib.hid f2; clear f2)
      | (go_at_call 24; refine (HH.out _ F2.out).mono ?_; rintro e w3 ⟨v3, rfl, o3⟩
         obtain ⟨A3, c3, rfl, hc3, hl3⟩ := o3.slice
         have F3 := Lib.hid (F2.out.trans o3.fr2 (fun _ _ e => e))
         have L3 := Lib.hid hl3
         have C3 := Lib.hid hc3
         clear o3 hl3 hc3)
      | (go_at_call 34
         refine (HSO.out _ _ (HPT.out w3 A3 c3 C3.out L3.out F3.out) (HK.out _ (F3.out.alloc _))).mono ?_
         rintro e w5 ⟨rfl, b5⟩
         have F5 := Lib.hid ((F3.out.alloc (.cells #[.slice A3 H.length c3, .slice A n c] 22)).then_below b5)
         clear b5)
      | (refine wpList_store_at rfl 41 _ _ rfl w.heap.size 0 41 _ V rfl rfl (HZ.out.fr F5.out (fun e => e)) (by rw [hvs]; decide) (by rw [hvs]; exact size32) hvo ?_
         intro w6 hw6 hf6
         rw [laidAt_all _ _ (by rw [hvs]; rfl)] at hw6))
    refine bodyPost_ret (v := .tuple #[.agg V, .int .i64 0]) (results_cell_slot (p := 4) (u := 5) rfl _ _ _ _ _ _ rfl hw6 Tryz.underlying41 rfl (by rw [hvs]; exact size32)) rfl ?_
    exact ⟨rfl, (HF.out.trans F5.out (fun _ _ e => e)).trans hf6 (fun i hi e => by omega)⟩
  · have hrz : (r == 0) = false := by simp [hr0]
    have HV := Lib.hid (HN1.out hr0)
    go_enter Tryz.func19, Tryz.ntmps19
    go_wp2_with (first
      | (go_at_call 11; refine HC.out.mono ?_; rintro e w2 ⟨rfl, f2⟩; have F2 := Lib.hid f2; clear f2)
      | (refine wpList_build_to rfl 41 _ rfl #[] (by first | rfl | simp [Act.eval]) (.agg zero32) (HBZ.out _) ?_)
      | (refine wpList_store_at rfl 41 _ _ rfl w.heap.size 0 41 _ zero32 rfl rfl (HZ.out.fr F2.out (fun e => e)) (by decide) size32 zero32_all ?_
         intro w6 hw6 hf6
         rw [laidAt_all _ _ rfl] at hw6))
    refine bodyPost_ret (v := .tuple #[.agg zero32, .int .i64 r]) (results_cell_slot (p := 4) (u := 5) rfl _ _ _ _ _ _ rfl hw6 Tryz.underlying41 rfl size32) rfl ?_
    exact ⟨by rw [HV.out], (HF.out.trans F2.out (fun _ _ e => e)).trans hf6 (fun i hi e => by omega)⟩

set_option maxHeartbeats 3200000 in
set_option maxRecDepth 100000 in
theorem QbName_any (k : Int) (A : Option Addr) (c : Nat) (l : List UInt8) (hcap : l.length ≤ c) (hm : l.length ≤ 9223372036854775807) (w : World) (h : Lies w A (bytesV l)) :
    Calls Tryz.prog 20 #[.int .i64 k, .slice A l.length c] w fun e w' => e = .returned (.tuple #[.agg (nameV k l), .int .i64 (chkO k l)]) ∧ Fr (fun _ => False) w w' := by
  obtain ⟨w1, hw1⟩ : ∃ w1, w.alloc (.cells zero32 41) = w1 := ⟨_, rfl⟩
  have hF : Fr (fun _ => False) w w1 := by subst hw1; exact (Fr.refl _ w).alloc _
  have hZ : Whole w1 w.heap.size 41 zero32 := by subst hw1; exact Whole.new w 41 zero32
  have hL1 := h.fr hF (fun _ _ e => e)
  have HB := Lib.hid (QbBytes_any k A c l hcap hm w1 hL1)
  have hol := objB_le k l
  have HQ := Lib.hid (fun w' A c (h : Lies w' A (bytesV (objB k l))) => QOf_any A c (objB k l) w' h (by omega))
  have HF := Lib.hid hF
  have HZ := Lib.hid hZ
  have HBZ := Lib.hid zeroID_build
  have HN0 : Hid (chkO k l = 0 → nameV k l = sumV (objB k l)) := Lib.hid (fun e => by rw [nameV, if_pos e])
  have HN1 : Hid (chkO k l ≠ 0 → nameV k l = zero32) := Lib.hid (fun e => by rw [nameV, if_neg e])
  have hvs := nameV_size k l
  have hvo := nameV_one k l
  obtain ⟨V, hV⟩ : ∃ V, nameV k l = V := ⟨_, rfl⟩
  rw [hV] at HN0 HN1 hvs hvo ⊢
  obtain ⟨r, hr⟩ : ∃ r, chkO k l = r := ⟨_, rfl⟩
  rw [hr] at HB HN0 HN1 ⊢
  obtain ⟨P, hP⟩ : ∃ P, objB k l = P := ⟨_, rfl⟩
  rw [hP] at HB HQ HN0
  obtain ⟨n, hn⟩ : ∃ n, l.length = n := ⟨_, rfl⟩
  rw [hn] at HB ⊢
  unfold zero32 at hw1
  simp [List.replicate] at hw1
  clear hV hr hP hn h hL1 hF hZ hcap hol hm
  by_cases hr0 : r = 0
  · subst hr0
    have hve := HN0.out (by first | rfl | trivial)
    rw [← hve] at HQ
    clear hve
    go_enter Tryz.func20, Tryz.ntmps20
    go_wp2_with (first
      | (go_at_call 9; refine HB.out.mono ?_; rintro e w2 ⟨A2, c2, rfl, hc2, hl2, f2⟩; have L2 := Lib.hid hl2; have F2 := Lib.hid f2; clear hc2 hl2 f2)
      | (go_at_call 21; refine (HQ.out _ _ _ L2.out).mono ?_; rintro e w5 ⟨rfl, b5⟩; have F5 := Lib.hid (F2.out.then_below b5); clear b5)
      | (refine wpList_store_at rfl 41 _ _ rfl w.heap.size 0 41 _ V rfl rfl (HZ.out.fr F5.out (fun e => e)) (by rw [hvs]; decide) (by rw [hvs]; exact size32) hvo ?_
         intro w6 hw6 hf6
         rw [laidAt_all _ _ (by rw [hvs]; rfl)] at hw6))
    refine bodyPost_ret (v := .tuple #[.agg V, .int .i64 0]) (results_cell_slot (p := 4) (u := 5) rfl _ _ _ _ _ _ rfl hw6 Tryz.underlying41 rfl (by rw [hvs]; exact size32)) rfl ?_
    exact ⟨rfl, (HF.out.trans F5.out (fun _ _ e => e)).trans hf6 (fun i hi e => by omega)⟩
  · have hrz : (r == 0) = false := by simp [hr0]
    have HV := Lib.hid (HN1.out hr0)
    go_enter Tryz.func20, Tryz.ntmps20
    go_wp2_with (first
      | (go_at_call 9; refine HB.out.mono ?_; rintro e w2 ⟨A2, c2, rfl, hc2, hl2, f2⟩; have F2 := Lib.hid f2; clear hc2 hl2 f2)
      | (refine wpList_build_to rfl 41 _ rfl #[] (by first | rfl | simp [Act.eval]) (.agg zero32) (HBZ.out _) ?_)
      | (refine wpList_store_at rfl 41 _ _ rfl w.heap.size 0 41 _ zero32 rfl rfl (HZ.out.fr F2.out (fun e => e)) (by decide) size32 zero32_all ?_
         intro w6 hw6 hf6
         rw [laidAt_all _ _ rfl] at hw6))
    refine bodyPost_ret (v := .tuple #[.agg zero32, .int .i64 r]) (results_cell_slot (p := 4) (u := 5) rfl _ _ _ _ _ _ rfl hw6 Tryz.underlying41 rfl size32) rfl ?_
    exact ⟨by rw [HV.out], (HF.out.trans F2.out (fun _ _ e => e)).trans hf6 (fun i hi e => by omega)⟩
end Go.Proofs.YtnnafiajfapenaaGreatDoor

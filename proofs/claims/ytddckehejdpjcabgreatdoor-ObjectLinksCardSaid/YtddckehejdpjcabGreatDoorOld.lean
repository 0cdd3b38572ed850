/- What is proved: what is named by what a body told, and what an object names, by the program. Conditions: the body's cells are there. -/
import Derived.Test.YtddckehejdpjcabGreatDoorOlc
import Derived.Test.YtddckehejdpjcabGreatDoorBp
namespace Go.Proofs.YtddckehejdpjcabGreatDoor
open Go.RowKit Go.Sort Go.Shelf
open Ids (idC dgt big idC_size idC_get idC_one cellD zero32 size32 dgt_lt)
set_option linter.unusedVariables false

theorem size36M : (Tryz.prog.info? 54).map (·.size) = some 36 := by kernel_rfl
def zeroRv : Array Value := (List.replicate 32 (Value.int .u8 0) ++ [Value.slice none 0 0, .string { data := #[] }, .int .i64 0, .string { data := #[] }]).toArray
def zeroMk : Array Value := (List.replicate 32 (Value.int .u8 0) ++ [Value.int .i64 0, .string { data := #[] }, .int .i64 0, .string { data := #[] }]).toArray
section
variable (v : Value) (w : World)
theorem asE_nil : (Instr.typeAssert .nilIface 20 43 true).run Tryz.prog w = .ok (.tuple #[.slice none 0 0, .bool false]) w := by kernel_rfl
theorem asR_nil : (Instr.typeAssert .nilIface 20 50 true).run Tryz.prog w = .ok (.tuple #[.agg zeroRv, .bool false]) w := by kernel_rfl
theorem asM_nil : (Instr.typeAssert .nilIface 20 54 true).run Tryz.prog w = .ok (.tuple #[.agg zeroMk, .bool false]) w := by kernel_rfl
theorem asE_E : (Instr.typeAssert (.iface 43 v) 20 43 true).run Tryz.prog w = .ok (.tuple #[v, .bool true]) w := by kernel_rfl
theorem asE_R : (Instr.typeAssert (.iface 50 v) 20 43 true).run Tryz.prog w = .ok (.tuple #[.slice none 0 0, .bool false]) w := by kernel_rfl
theorem asE_M : (Instr.typeAssert (.iface 54 v) 20 43 true).run Tryz.prog w = .ok (.tuple #[.slice none 0 0, .bool false]) w := by kernel_rfl
theorem asR_R : (Instr.typeAssert (.iface 50 v) 20 50 true).run Tryz.prog w = .ok (.tuple #[v, .bool true]) w := by kernel_rfl
theorem asR_M : (Instr.typeAssert (.iface 54 v) 20 50 true).run Tryz.prog w = .ok (.tuple #[.agg zeroRv, .bool false]) w := by kernel_rfl
theorem asM_M : (Instr.typeAssert (.iface 54 v) 20 54 true).run Tryz.prog w = .ok (.tuple #[v, .bool true]) w := by kernel_rfl
end
set_option maxHeartbeats 3200000 in
set_option maxRecDepth 100000 in
theorem Obnamed_nil (w : World) : Calls Tryz.prog 9 #[.nilIface] w fun e w' => ∃ v, e = .returned v ∧ OwnL 34 w w' v [] := by
  have q0 := asE_nil
  have q1 := asR_nil
  have q2 := asM_nil
  go_enter Tryz.func9, Tryz.ntmps9
  go_wp2
  (try simp only [Exit.inBlock, Exit.then])
  go_ret
  exact ⟨_, rfl, OwnL.nil (Fr.refl _ _)⟩
set_option maxHeartbeats 3200000 in
set_option maxRecDepth 100000 in
theorem Obnamed_ents (A : Option Addr) (c : Nat) (es : List Ent) (hn : es.length ≤ 100000) (w : World) (h : Lies w A (flatE es)) :
    Calls Tryz.prog 9 #[.iface 43 (.slice A es.length c)] w fun e w' => ∃ v, e = .returned v ∧ OwnL 34 w w' v (es.map lnkE) := by
  have H := Lib.hid (ObnamedT_any A c es hn w h)
  obtain ⟨L, hL⟩ : ∃ L, es.length = L := ⟨_, rfl⟩
  obtain ⟨M, hM⟩ : ∃ M, es.map lnkE = M := ⟨_, rfl⟩
  rw [hL, hM] at H ⊢
  clear h hL hn hM
  have q0 := asE_E
  go_enter Tryz.func9, Tryz.ntmps9
  go_wp2_with (go_at_call 20; refine H.out.mono ?_; rintro e w' ⟨v, rfl, o⟩; have O2 := Lib.hid o; obtain ⟨A2, c2, rfl, _⟩ := o.slice)
  (try simp only [Exit.inBlock, Exit.then])
  go_ret
  exact ⟨_, rfl, O2.out⟩
set_option maxHeartbeats 3200000 in
set_option maxRecDepth 100000 in
theorem Obnamed_rev (T : Nat) (A : Option Addr) (c : Nat) (ps : List Nat) (a : List UInt8) (n : Int) (t : List UInt8) (hn : ps.length ≤ 100000) (w : World) (h : Lies w A (flatI ps)) :
    Calls Tryz.prog 9 #[.iface 50 (.agg (revC T (.slice A ps.length c) a n t))] w fun e w' => ∃ v, e = .returned v ∧ OwnL 34 w w' v (lnkI T 2 :: ps.map (fun n => lnkI n 3)) := by
  have H := Lib.hid (fun w' (f : Fr (fun _ => False) w w') => ObnamedC_any T A c ps a n t hn w' (h.fr f (fun _ _ e => e)))
  have hrs := revC_size T (.slice A ps.length c) a n t
  have hro := revC_one T (.slice A ps.length c) a n t rfl
  obtain ⟨R, hR⟩ : ∃ R, revC T (.slice A ps.length c) a n t = R := ⟨_, rfl⟩
  obtain ⟨M, hM⟩ : ∃ M, lnkI T 2 :: ps.map (fun n => lnkI n 3) = M := ⟨_, rfl⟩
  rw [hM] at H ⊢
  rw [hR] at H hrs hro ⊢
  clear h hn hR hM
  have HRO := Lib.hid hro
  clear hro
  have q0 := asE_R
  have q1 := asR_R
  go_enter Tryz.func9, Tryz.ntmps9
  go_wp2_with (first
    | (refine wpList_store_at rfl 50 _ _ rfl w.heap.size 0 50 zeroRv R rfl rfl (Whole.new w 50 zeroRv) (by rw [hrs]; decide) (by rw [hrs]; exact size36) HRO.out ?_
       intro w2 hw2 hf2
       rw [laidAt_all _ _ (by rw [hrs]; rfl)] at hw2
       have W2 := Lib.hid hw2
       have F2 := Lib.hid (((Fr.refl (fun _ => False) w).alloc (.cells zeroRv 50)).trans hf2 (fun i hi e => by omega))
       clear hw2 hf2)
    | (refine wpList_load_row rfl 50 _ rfl _ rfl 50 _ _ _ W2.out Tryz.underlying50 rfl (by rw [hrs]; exact size36) ?_)
    | (go_at_call 21; refine (H.out _ F2.out).mono ?_; rintro e w' ⟨v, rfl, o⟩; have O2 := Lib.hid o; obtain ⟨A2, c2, rfl, _⟩ := o.slice))
  (try simp only [Exit.inBlock, Exit.then])
  go_ret
  exact ⟨_, rfl, O2.out.base F2.out⟩
set_option maxHeartbeats 3200000 in
set_option maxRecDepth 100000 in
theorem Obnamed_mark (T : Nat) (k : Int) (a : List UInt8) (n : Int) (t : List UInt8) (w : World) :
    Calls Tryz.prog 9 #[.iface 54 (.agg (markC T k a n t))] w fun e w' => ∃ v, e = .returned v ∧ OwnL 34 w w' v [lnkI T k] := by
  have hrs := markC_size T k a n t
  have hro := markC_one T k a n t
  have hrk := markC_k T k a n t
  have hri := markC_id T k a n t
  obtain ⟨R, hR⟩ : ∃ R, markC T k a n t = R := ⟨_, rfl⟩
  rw [hR] at hrs hro hrk hri ⊢
  have HRO := Lib.hid hro
  have HRK := Lib.hid hrk
  have HRI := Lib.hid hri
  obtain ⟨y, hy⟩ : ∃ y, lnkI T k = y := ⟨_, rfl⟩
  have HK := Lib.hid (show y.k = k from by rw [← hy]; rfl)
  have HCI := Lib.hid (show idV y = idC (dgt T) from by rw [← hy]; exact idV_I T k)
  have hcis := idC_size (dgt T)
  rw [hy]
  obtain ⟨ci, hci⟩ : ∃ c, idC (dgt T) = c := ⟨_, rfl⟩
  rw [hci] at HCI hcis HRI
  obtain ⟨cx, hcx⟩ : ∃ c, (lnkC y).toArray = c := ⟨_, rfl⟩
  have HCX := Lib.hid hcx
  clear hR hro hrk hri hy hci hcx
  have q0 := asE_M
  have q1 := asR_M
  have q2 := asM_M
  go_enter Tryz.func9, Tryz.ntmps9
  go_wp2_with (first
    | (refine wpList_store_at rfl 54 _ _ rfl w.heap.size 0 54 zeroMk R rfl rfl (Whole.new w 54 zeroMk) (by rw [hrs]; decide) (by rw [hrs]; exact size36M) HRO.out ?_
       intro w2 hw2 hf2
       rw [laidAt_all _ _ (by rw [hrs]; rfl)] at hw2
       have c2 : w2.cell? ⟨w.heap.size, 32, none⟩ = some (.int .i64 k) := (by rw [hw2.cell]; exact HRK.out)
       have R2 := Lib.hid (show w2.rangeAt w.heap.size 0 ci.toList from fun j v hv => by rw [Nat.zero_add, hw2.cell]; exact HRI.out j v hv)
       have F2 := Lib.hid (((Fr.refl (fun _ => False) w).alloc (.cells zeroMk 54)).trans hf2 (fun i hi e => by omega))
       clear hw2 hf2)
    | (refine wpList_load_id rfl (.tmp 20) rfl w.heap.size 0 rfl ci hcis R2.out ?_)
    | (refine wpList_lnk rfl 34 build_lnk _ _ rfl y cx HCX.out ci HCI.out _ HK.out rfl rfl ?_)
    | (refine wpList_lnks rfl 24 34 slice_lnk _ rfl y cx HCX.out rfl ?_))
  (try simp only [Exit.inBlock, Exit.then])
  go_ret
  exact ⟨_, rfl, by rw [← HCX.out]; exact OwnL.laid F2.out y⟩

theorem chkO_small {k : Int} {l : List UInt8} (h : chkO k l = 0) : 1 ≤ k ∧ k ≤ 4 ∧ l.length ≤ 4000 := by
  by_cases hk : k < 1 ∨ 4 < k
  · rw [chkO_bad hk] at h; cases h
  · by_cases h2 : 4000 < l.length
    · rw [chkO_long hk h2] at h; cases h
    · omega
theorem links_bad {k : Int} {l : List UInt8} (h : chkO k l ≠ 0) : linksO k l = [] := by rw [linksO, if_neg h]
theorem links_1 (l : List UInt8) : linksO 1 l = [] := by rw [linksO]; simp
theorem links_2 {l : List UInt8} (h : chkO 2 l = 0) : linksO 2 l = (getW l []).1.map lnkE := by rw [linksO, if_pos h, if_pos rfl]
theorem links_3 {l : List UInt8} (h : chkO 3 l = 0) : linksO 3 l = lnkI (getR l).1.T 2 :: (getR l).1.ps.map (fun n => lnkI n 3) := by rw [linksO, if_pos h, if_neg (by decide), if_pos rfl]
theorem links_4 {l : List UInt8} (h : chkO 4 l = 0) : linksO 4 l = [lnkI (getM l).1.T (getM l).1.k] := by rw [linksO, if_pos h, if_neg (by decide), if_neg (by decide), if_pos rfl]

set_option maxHeartbeats 1600000 in
/-- What is named by what a body told. -/
theorem Obnamed_told (k : Int) (l : List UInt8) (h0 : chkO k l = 0) (w w1 : World) (v : Value) (ht : Told w w1 k l v) :
    Calls Tryz.prog 9 #[v] w1 fun e w' => ∃ u, e = .returned u ∧ OwnL 34 w1 w' u (linksO k l) := by
  obtain ⟨h1, h4, hl⟩ := chkO_small h0
  obtain ⟨t2, t3, t4, t1⟩ := ht
  have hk : k = 1 ∨ k = 2 ∨ k = 3 ∨ k = 4 := by omega
  rcases hk with rfl | rfl | rfl | rfl
  · rw [t1 rfl, links_1]; exact Obnamed_nil w1
  · obtain ⟨u, rfl, o⟩ := t2 rfl hl
    obtain ⟨A, c, rfl, hc, _, hlie, _⟩ := o.slice
    rw [links_2 h0]
    have := getW_len l.length l [] (Nat.le_refl _)
    rw [List.length_nil] at this
    exact Obnamed_ents A c _ (by omega) w1 hlie
  · obtain ⟨u, rfl, o⟩ := t3 rfl hl
    obtain ⟨A, c, rfl, hc, _, _, hlie⟩ := o.slice
    rw [links_3 h0]
    have := (getR_props l).1
    exact Obnamed_rev _ A c _ _ _ _ (by omega) w1 hlie
  · rw [t4 rfl hl, links_4 h0]; exact Obnamed_mark _ _ _ _ _ w1

set_option maxHeartbeats 3200000 in
set_option maxRecDepth 100000 in
theorem ObLinks_any (k : Int) (A : Option Addr) (c : Nat) (l : List UInt8) (hcap : l.length ≤ c) (w : World) (h : Lies w A (bytesV l)) :
    Calls Tryz.prog 5 #[.int .i64 k, .slice A l.length c] w fun e w' => ∃ v, e = .returned (.tuple #[v, .int .i64 (chkO k l)]) ∧ OwnL 34 w w' v (linksO k l) := by
  have H := Lib.hid (Obread_any k A c l hcap w h)
  have HN := Lib.hid (fun h0 w1 v ht => Obnamed_told k l h0 w w1 v ht)
  have HB := Lib.hid (links_bad (k := k) (l := l))
  obtain ⟨r, hr⟩ : ∃ r, chkO k l = r := ⟨_, rfl⟩
  obtain ⟨M, hM⟩ : ∃ M, linksO k l = M := ⟨_, rfl⟩
  rw [hr] at H HN HB ⊢
  rw [hM] at HN HB ⊢
  obtain ⟨n, hn⟩ : ∃ n, l.length = n := ⟨_, rfl⟩
  rw [hn] at H ⊢
  clear h hcap hr hM hn
  by_cases hr0 : r = 0
  · subst hr0
    go_enter Tryz.func5, Tryz.ntmps5
    go_wp2_with (first
      | (go_at_call 8; refine H.out.mono ?_; rintro e w1 ⟨v, rfl, ht, f⟩; have F1 := Lib.hid f; have HV := Lib.hid (HN.out (by first | rfl | trivial) w1 v ht); clear ht f)
      | (go_at_call 9; refine HV.out.mono ?_; rintro e w2 ⟨u, rfl, o⟩; have O2 := Lib.hid o; obtain ⟨A2, c2, rfl, _⟩ := o.slice; clear o))
    go_ret2
    exact ⟨_, rfl, O2.out.base F1.out⟩
  · have hrz : (r == 0) = false := by simp [hr0]
    have HM := Lib.hid (HB.out hr0)
    go_enter Tryz.func5, Tryz.ntmps5
    go_wp2_with (go_at_call 8; refine H.out.mono ?_; rintro e w1 ⟨v, rfl, ht, f⟩; have F1 := Lib.hid f; clear ht f)
    go_ret2
    exact ⟨_, rfl, by rw [HM.out]; exact OwnL.nil F1.out⟩
end Go.Proofs.YtddckehejdpjcabGreatDoor

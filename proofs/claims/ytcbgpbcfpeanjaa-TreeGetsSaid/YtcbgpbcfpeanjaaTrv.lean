/- What is proved: entries as bytes, by the program. Conditions: the list's cells are there. -/
import Derived.Test.YtcbgpbcfpeanjaaTrt
namespace Go.Proofs.Ytcbgpbcfpeanjaa
open Go.RowKit Go.Sort Go.Shelf
set_option linter.unusedVariables false

/-! Bytes of the call's own. -/
theorem info_u8 : (Try.prog.info? 5).map (fun i => (i.zero, i.size, i.bytes)) = some (some (.int .u8 0), 1, 1) := by kernel_rfl
theorem Lies.srcB {w : World} {A : Option Addr} {l : List UInt8} {n : Nat} (h : Lies w A (bytesV l)) (hn : l.length = n) (c : Nat) : Src Try.prog 1 30 (.slice A n c) n (bytesV l) w := by
  have := Lies.src (P := Try.prog) (tx := 30) (e' := 5) h Try.underlying30 (bytesV_one _) c
  rwa [bytesV_length, hn] at this
def OwnB (w0 w : World) (v : Value) (l : List UInt8) : Prop := w.ownsRow w0.heap.size 5 1 v l.length (bytesV l) ∧ Fr (fun _ => False) w0 w
theorem OwnB.nil {w0 w : World} (f : Fr (fun _ => False) w0 w) : OwnB w0 w (.slice none 0 0) [] := ⟨World.ownsRow_nil w w0.heap.size 5 1, f⟩
theorem OwnB.fr {w0 w w' : World} {v : Value} {l : List UInt8} (h : OwnB w0 w v l) (f : Fr (fun _ => False) w w') : OwnB w0 w' v l := ⟨own_fr h.1 f (fun _ _ e => e), h.2.trans f (fun _ _ e => e)⟩
theorem OwnB.slice {w0 w : World} {v : Value} {l : List UInt8} (h : OwnB w0 w v l) : ∃ A c, v = .slice A l.length c ∧ l.length ≤ c ∧ Lies w A (bytesV l) := by
  obtain ⟨A, c, hv, hc, _⟩ := own_slice h.1
  subst hv
  exact ⟨A, c, rfl, hc, Lies.of_own h.1⟩
theorem OwnB.grow {w0 w w' : World} {v v' : Value} {l m : List UInt8} (h : OwnB w0 w v l) {n k : Nat} (hn : n = l.length) (hk : k = m.length) (o : w'.ownsRow w0.heap.size 5 1 v' (n + k) (bytesV l ++ bytesV m)) (g : w.grownBy w' v.ownBlock) : OwnB w0 w' v' (l ++ m) := by
  refine ⟨?_, fr_append h.1 h.2 g⟩
  rw [List.length_append, bytesV_append, ← hn, ← hk]
  exact o
/-- Bytes just laid, as a source. -/
theorem src_lit (w : World) (cs : Array Value) (l : List UInt8) (h : cs.toList = bytesV l) (n : Nat) (hn : l.length = n) : Src Try.prog 1 30 (.slice (some ⟨w.heap.size, 0, none⟩) n n) n (bytesV l) (w.alloc (.cells cs 5)) :=
  Lies.srcB (.inr ⟨w.heap.size, 0, rfl, fun j u hu => by rw [Nat.zero_add, (Whole.new w 5 cs).cell, ← Array.getElem?_toList, h]; exact hu⟩) hn n
/-- Own bytes, and a block beside them. -/
def Keep (w wi : World) (v : Value) (xs : List UInt8) (g : Nat) (ca : Array Value) : Prop := OwnB w wi v xs ∧ Whole wi g 45 ca ∧ ∀ j, v.ownBlock = some j → j ≠ g
theorem Keep.fresh {w wi : World} {v : Value} {xs : List UInt8} {g : Nat} {ca : Array Value} (h : Keep w wi v xs g ca) (o : Obj) : Keep w (wi.alloc o) v xs g ca :=
  ⟨h.1.fr ((Fr.refl _ wi).alloc o), h.2.1.fr ((Fr.refl (fun _ => False) wi).alloc o) (fun e => e), h.2.2⟩
theorem Keep.step {w wi wj : World} {v v' : Value} {xs l : List UInt8} {g : Nat} {ca : Array Value} (h : Keep w wi v xs g ca) {n k : Nat} (hn : n = xs.length) (hk : k = l.length)
    (o : wj.ownsRow w.heap.size 5 1 v' (n + k) (bytesV xs ++ bytesV l)) (gr : wi.grownBy wj v.ownBlock) (att : v'.ownBlock = v.ownBlock ∨ v'.ownBlock = some wi.heap.size) : Keep w wj v' (xs ++ l) g ca := by
  refine ⟨h.1.grow hn hk o gr, ?_, fun j hj => ?_⟩
  · exact (gr.block g h.2.1.lt (fun e => h.2.2 g e.symm rfl)).trans h.2.1
  · rcases att with e | e
    · exact h.2.2 j (by rw [← e]; exact hj)
    · rw [hj] at e
      injection e with e
      have := h.2.1.lt
      omega

/-! An entry's bytes. -/
def digB (m : Int) : UInt8 := UInt8.ofNat (48 + m.toNat)
def entB (e : Ent) : List UInt8 := [digB e.mode, 32] ++ e.name ++ [0] ++ e.id
def flatB (es : List Ent) : List UInt8 := es.flatMap entB
theorem flatB_snoc (es : List Ent) (e : Ent) : flatB (es ++ [e]) = flatB es ++ entB e := by simp [flatB]
theorem digB_cell (m : Int) (h1 : 1 ≤ m) (h3 : m ≤ 3) : ((digB m).toNat : Int) = 48 + m := by
  rw [digB, UInt8.toNat_ofNat']
  omega
theorem u8_digit (m : Int) (h1 : 1 ≤ m) (h3 : m ≤ 3) : IntKind.u8.wrap m = m ∧ IntKind.u8.wrap (48 + m) = 48 + m := by
  rcases (show m = 1 ∨ m = 2 ∨ m = 3 by omega) with rfl | rfl | rfl <;> exact ⟨by decide, by decide⟩
theorem name_small {n : List UInt8} (h : nameB n = true) : n.length ≤ 32 := by
  rw [name_eq _ _ rfl] at h
  simp only [Bool.and_eq_true, decide_eq_true_eq] at h
  exact h.1.1.1.1.2
theorem entB_len {e : Ent} (h : nameB e.name = true) : (entB e).length ≤ 67 := by
  have := name_small h
  simp [entB, e.hi]; omega
theorem flatB_len : ∀ (es : List Ent), (∀ e ∈ es, nameB e.name = true) → (flatB es).length ≤ es.length * 67
  | [], _ => by simp [flatB]
  | e :: es, h => by
    have h1 := entB_len (h e (by simp))
    have h2 := flatB_len es (fun x hx => h x (by simp [hx]))
    have e1 : flatB (e :: es) = entB e ++ flatB es := rfl
    rw [e1, List.length_append, List.length_cons]; omega
theorem chk_zero {es : List Ent} (h : chk es = 0) : firstBad es = 0 ∧ es.length ≤ 64 := by
  unfold chk at h
  split at h
  · cases h
  · rename_i h1
    split at h
    · rename_i h2; exact ⟨h2, by omega⟩
    · exact ⟨h, by omega⟩
/-- What Put makes of entries. -/
def putB (es : List Ent) : List UInt8 := if chk es = 0 then flatB es else []

set_option maxHeartbeats 6400000 in
theorem TPut_any (A : Option Addr) (cap : Nat) (es : List Ent) (hn : es.length ≤ 100000) (w : World) (h : Lies w A (flatE es)) :
    Calls Try.prog 14 #[.slice A es.length cap] w fun e w' => ∃ v, e = .returned (.tuple #[v, .int .i64 (chk es)]) ∧ OwnB w w' v (putB es) := by
  have HLI := Lib.hid h
  have hc := Lib.hid (TCheck_any A cap es hn w h)
  have HP1 : Hid (chk es ≠ 0 → putB es = []) := Lib.hid (fun e => by rw [putB, if_neg e])
  have HP2 : Hid (chk es = 0 → putB es = flatB es) := Lib.hid (fun e => by rw [putB, if_pos e])
  have HZ0 := Lib.hid (fun e => chk_zero (es := es) e)
  obtain ⟨r, hr⟩ : ∃ r, chk es = r := ⟨_, rfl⟩
  obtain ⟨i0, hi, hz0, hz1, hz2⟩ := info_parts info_u8
  obtain ⟨L, hL⟩ : ∃ L, es.length = L := ⟨_, rfl⟩
  have HLn := Lib.hid hL
  obtain ⟨T, hT⟩ : ∃ T : TypeId, T = 45 := ⟨_, rfl⟩
  obtain ⟨n34, h34⟩ : ∃ n : Nat, n = 34 := ⟨_, rfl⟩
  have ag34 : ∀ w, (isAgg T).run Try.prog w = .ok true w := by rw [hT]; exact fun _ => by kernel_rfl
  have sz34 : ∀ w, (sizeOf T).run Try.prog w = .ok n34 w := by rw [hT, h34]; exact fun _ => by kernel_rfl
  have HN := Lib.hid h34
  rw [hr] at hc HP1 HP2 HZ0 ⊢
  rw [hL] at hn hc HZ0 ⊢
  clear h hr hL h34
  go_enter Try.func14, Try.ntmps14
  rw [show Op.load 45 (.tmp 17) = Op.load T (.tmp 17) by rw [hT]]
  clear hT
  by_cases hr0 : r = 0
  · subst hr0
    have hL64 := (HZ0.out rfl).2
    have HOK := Lib.hid (firstBad_ok es (HZ0.out rfl).1)
    go_wp2_with (go_at_call 10; refine hc.out.mono ?_; rintro e w1 ⟨rfl, bb⟩; have HF0 := Lib.hid (Fr.of_below (S := fun _ => False) bb); clear bb)
    go_loopg [5, 15] L (fun kx s5 s15 wr => ∃ k : Nat, s15 = .int .i64 k ∧ k ≤ L ∧ L - k ≤ kx ∧ OwnB w wr s5 (flatB (es.take k)))
    case atStart => exact ⟨0, rfl, by omega, by omega, OwnB.nil HF0.out⟩
    case round =>
      obtain ⟨k, rfl, hk, hkx, ho⟩ := hrel
      obtain ⟨wo, rfl⟩ : ∃ wo, wo = wr := ⟨wr, rfl⟩
      have wk := wrap_nat k (by omega)
      by_cases hlt : k < L
      · have hltz : (k : Int) < L := by omega
        obtain ⟨b, o, hB⟩ := HLI.out.someE (by rw [HLn.out]; omega)
        subst hB
        have hxs := flatB_len (es.take k) (fun e he => (HOK.out e (List.mem_of_mem_take he)).2)
        rw [List.length_take] at hxs
        have HNX := Lib.hid (show flatB (es.take (k + 1)) = flatB (es.take k) ++ entB es[k]! by rw [ents_snoc es k (by rw [HLn.out]; exact hlt), flatB_snoc])
        obtain ⟨xs, hxe⟩ : ∃ xs, flatB (es.take k) = xs := ⟨_, rfl⟩
        rw [hxe] at ho hxs HNX
        obtain ⟨n, hn'⟩ : ∃ n, xs.length = n := ⟨_, rfl⟩
        have hn6 : n ≤ 6432 := by rw [← hn']; omega
        have HNL := Lib.hid hn'
        have l1 : (loadCellsFrom ⟨b, o + k * 34, none⟩ 0 n34 #[]).run Try.prog wo = .ok (entV es[k]!).toArray wo := load_ent HLI.out (some_of_mem (by rw [HLn.out]; omega)) ho.2 n34 HN.out
        have hok := HOK.out es[k]! (by rw [getElem!_pos es k (by rw [HLn.out]; exact hlt)]; exact List.getElem_mem _)
        obtain ⟨x, hx⟩ : ∃ x, es[k]! = x := ⟨_, rfl⟩
        rw [hx] at l1 hok HNX
        (
          obtain ⟨w1, hw1⟩ : ∃ w1, wo.alloc (.cells zeroE 45) = w1 := ⟨_, rfl⟩
          have HZ := Lib.hid (show Whole w1 wo.heap.size 45 zeroE from by subst hw1; exact Whole.new wo 45 zeroE)
          have HF1 := Lib.hid (show Fr (fun _ => False) wo w1 from by subst hw1; exact (Fr.refl _ wo).alloc _)
          unfold zeroE at hw1
          simp [List.replicate] at hw1)
        have hcs := entV_size x
        have HO := Lib.hid (entV_all x)
        have HN0 := Lib.hid (entV_name x)
        have HM0 := Lib.hid (entV_mode x)
        have hnm := name_small hok.2
        have HSL := Lib.hid (strB_size x.name)
        have HSD := Lib.hid (strB_data x.name)
        have hm13 : 1 ≤ x.mode ∧ x.mode ≤ 3 := by
          have := hok.1
          rw [modeB, Bool.and_eq_true, decide_eq_true_eq, decide_eq_true_eq] at this
          exact this
        have HDG := Lib.hid (digB_cell x.mode hm13.1 hm13.2)
        obtain ⟨hu1, hu2⟩ := u8_digit x.mode hm13.1 hm13.2
        have HID : Hid (∀ j v, (bytesV x.id)[j]? = some v → (entV x).toArray[2 + j]? = some v) := Lib.hid (fun j v hv => by rw [List.getElem?_toArray, entV, Nat.add_comm]; exact hv)
        obtain ⟨ca, hca⟩ : ∃ c, (entV x).toArray = c := ⟨_, rfl⟩
        rw [hca] at l1 hcs HO HN0 HM0 HID
        obtain ⟨S, hS⟩ : ∃ S, strB x.name = S := ⟨_, rfl⟩
        obtain ⟨m, hm⟩ : ∃ m, x.mode = m := ⟨_, rfl⟩
        obtain ⟨N, hN'⟩ : ∃ N, x.name.length = N := ⟨_, rfl⟩
        rw [hS] at HN0 HSL HSD
        rw [hm] at HM0 hm13 HDG hu1 hu2
        rw [hN'] at hnm HSL
        have HEB : Hid (entB x = [digB m, 32] ++ x.name ++ [0] ++ x.id) := Lib.hid (by rw [entB, hm])
        have HNN := Lib.hid hN'
        have HIL := Lib.hid x.hi
        have hmb := hm13.1
        have hmt := hm13.2
        have HOw := Lib.hid ho
        clear hx hca hS hm hN' hok hn' ho hxe hm13
        go_wp2_with (first
          | (at_builtin; refine wpList_append_row _ rfl (.tmp 33) (.tmp 35) 30 30 rfl w.heap.size 5 i0 (.int .u8 0) 1 1 Try.underlying30 hi hz0 hz1 hz2 rfl _ (n + 2 + N + 1) (bytesV (xs ++ [digB m, 32] ++ x.name ++ [0])) rfl (by have := K3.out.1.1; rwa [List.length_append, List.length_append, List.length_append, HNL.out, HNN.out] at this) _ 32 (bytesV x.id) rfl (Lies.srcB (.inr ⟨wo.heap.size, 2, rfl, fun j u hu => (by rw [K3.out.2.1.cell]; exact HID.out j u hu)⟩) HIL.out 32) (by unfold maxLen; omega) (by omega) K3.out.1.2.size ?_
             intro v4 w7 o4 g4 at4
             have K4 := Lib.hid (K3.out.step (n := n + 2 + N + 1) (k := 32) (by rw [List.length_append, List.length_append, List.length_append, HNL.out, HNN.out]; rfl) HIL.out.symm o4 g4 at4)
             clear o4 g4 at4)
          | (at_builtin; refine wpList_append_row _ rfl (.tmp 30) (.tmp 31) 30 30 rfl w.heap.size 5 i0 (.int .u8 0) 1 1 Try.underlying30 hi hz0 hz1 hz2 rfl _ (n + 2 + N) (bytesV (xs ++ [digB m, 32] ++ x.name)) rfl (by have := (K2.out.fresh (.cells #[.int .u8 0] 5)).1.1; rwa [List.length_append, List.length_append, HNL.out, HNN.out] at this) _ 1 (bytesV [0]) rfl (src_lit w5 _ [0] rfl 1 rfl) (by unfold maxLen; omega) (by omega) (by have := K2.out.1.2.size; simp; omega) ?_
             intro v3 w6 o3 g3 at3
             have K3 := Lib.hid ((K2.out.fresh _).step (n := n + 2 + N) (k := 1) (l := [0]) (by rw [List.length_append, List.length_append, HNL.out, HNN.out]; rfl) rfl o3 g3 at3)
             clear o3 g3 at3)
          | (at_builtin; refine wpList_append_row _ rfl (.tmp 26) (.tmp 28) 30 9 rfl w.heap.size 5 i0 (.int .u8 0) 1 1 Try.underlying30 hi hz0 hz1 hz2 rfl _ (n + 2) (bytesV (xs ++ [digB m, 32])) rfl (by have := K1.out.1.1; rwa [List.length_append, HNL.out] at this) _ N (bytesV x.name) rfl (by have := Src.ofString (P := Try.prog) (w := w4) Try.underlying9 S; rw [byteCells_eq, HSD.out, HSL.out] at this; exact this) (by unfold maxLen; omega) (by omega) K1.out.1.2.size ?_
             intro v2 w5 o2 g2 at2
             have K2 := Lib.hid (K1.out.step (n := n + 2) (k := N) (l := x.name) (by rw [List.length_append, HNL.out]; rfl) HNN.out.symm o2 g2 at2)
             clear o2 g2 at2)
          | (at_builtin; refine wpList_append_row _ rfl (.tmp 19) (.tmp 24) 30 30 rfl w.heap.size 5 i0 (.int .u8 0) 1 1 Try.underlying30 hi hz0 hz1 hz2 rfl _ n (bytesV xs) rfl (by rw [← HNL.out]; exact (K0.out.fresh _).1.1) _ 2 (bytesV [digB m, 32]) rfl (src_lit w2 _ [digB m, 32] (by show [_, _] = [Value.int .u8 ((digB m).toNat : Int), _]; rw [HDG.out]; rfl) 2 rfl) (by unfold maxLen; omega) (by omega) (by have := K0.out.1.2.size; simp; omega) ?_
             intro v1 w4 o1 g1 at1
             have K1 := Lib.hid ((K0.out.fresh _).step (n := n) (k := 2) (l := [digB m, 32]) HNL.out.symm rfl o1 g1 at1)
             have c0b : w4.cell? ⟨wo.heap.size, 0, none⟩ = some (.string S) := (by rw [K1.out.2.1.cell]; exact HN0.out)
             clear o1 g1 at1)
          | (refine wpList_store_at rfl 45 _ _ rfl wo.heap.size 0 45 zeroE ca rfl rfl HZ.out (by rw [zeroE_size, hcs]; exact Nat.le_refl _) (by rw [hcs]; exact size_ent) HO.out ?_; intro w2 hw2 hf2; rw [laidAt_all _ _ (by rw [zeroE_size, hcs])] at hw2; have c0 : w2.cell? ⟨wo.heap.size, 0, none⟩ = some (.string S) := (by rw [hw2.cell]; exact HN0.out); have c1 : w2.cell? ⟨wo.heap.size, 1, none⟩ = some (.int .i64 m) := (by rw [hw2.cell]; exact HM0.out); have K0 : Hid (Keep w w2 u5 xs wo.heap.size ca) := Lib.hid ⟨⟨own_fr HOw.out.1 (HF1.out.trans hf2 (T := fun k => k = wo.heap.size) (fun i hi e => by omega)) (fun _ _ e => e), (HOw.out.2.trans HF1.out (fun _ _ e => e)).trans hf2 (fun i hi e => by have := HOw.out.2.size; omega)⟩, hw2, fun j hj e => by have := own_lt HOw.out.1 hj; omega⟩; clear hw2 hf2))
        have N4 : OwnB w w7 v4 (flatB (es.take (k + 1))) := by
          rw [HNX.out, HEB.out]
          have := K4.out.1
          simpa only [List.append_assoc] using this
        have NN := Lib.hid N4
        clear N4
        go_roundg (L - (k + 1))
        case measure => omega
        case rel => exact ⟨k + 1, by go_num, by omega, Nat.le_refl _, NN.out⟩
      · obtain rfl : k = L := by omega
        have hall : es.take k = es := List.take_of_length_le (by rw [HLn.out]; exact Nat.le_refl _)
        rw [hall] at ho
        have NN := Lib.hid ho
        clear ho hall
        have hltz : ¬ ((k : Int) < (k : Int)) := by omega
        go_wp2
        go_ret2
        exact ⟨_, rfl, by rw [HP2.out (by first | rfl | trivial)]; exact NN.out⟩
  · have hrz : (r == 0) = false := by simp [hr0]
    go_wp2_with (go_at_call 10; refine hc.out.mono ?_; rintro e w1 ⟨rfl, bb⟩; have HF0 := Lib.hid (Fr.of_below (S := fun _ => False) bb); clear bb)
    go_ret2
    exact ⟨_, rfl, by rw [HP1.out hr0]; exact OwnB.nil HF0.out⟩
end Go.Proofs.Ytcbgpbcfpeanjaa

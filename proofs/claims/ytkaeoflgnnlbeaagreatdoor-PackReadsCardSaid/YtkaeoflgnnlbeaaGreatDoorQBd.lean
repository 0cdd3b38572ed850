/- What is proved: texts that stand one behind the other: Bd Bda. Conditions: each theorem names its own. -/
import Derived.Test.YtkaeoflgnnlbeaaGreatDoorQItoa
import Derived.Lib.ItoaNum
import Derived.Deep.LoopGhost
import Derived.Deep.RegionWith
import Derived.Deep.CutBlock
import Derived.Deep.DeepCutAuto
import Derived.OwnWalk
import Derived.BigQuiet
import Derived.OrdersHeld
import Derived.Lib.Hide
import Derived.Lib.ItoaLen
import Derived.Test.YtkaeoflgnnlbeaaGreatDoorQDb
import Derived.Test.YtkaeoflgnnlbeaaGreatDoorQDba
import Derived.Test.YtkaeoflgnnlbeaaGreatDoorQBb
/- What is proved: what the walks of this seat need of layers below, merged out of the texts Rva Rvb Rvc Rvj (of each just what is needed). Conditions: each theorem names its own. -/
/- What is proved: plain facts on decimal digits; what the library's table asks of a world. Conditions: none. -/
namespace Go.Proofs.YtkaeoflgnnlbeaaGreatDoor
open Go.RowKit Go.Sort Go.Shelf
set_option linter.unusedVariables false
/-! The table of powers. -/
def Tab10 (w : World) : Prop := Lib.TabIs Tryz.prog w "internal/strconv.uint64pow10" .u64 Lib.pow10Tab
theorem Tab10.fr {w w' : World} (h : Tab10 w) (f : Fr (fun _ => False) w w') : Tab10 w' := by
  unfold Tab10 Lib.TabIs World.var? at *
  cases hg : Tryz.prog.globalNamed "internal/strconv.uint64pow10" with
  | none => simp [hg] at h
  | some g =>
    simp only [hg, Option.bind_some] at h ⊢
    by_cases hlt : g < w.heap.size
    · rw [f.block g hlt (fun e => e)]; exact h
    · rw [Array.getElem?_eq_none (by omega)] at h
      simp at h
theorem grow_below (w : World) (n : Nat) (os : Array Obj) : Below w.heap.size w (grow (w.drewN n) os) := by
  refine ⟨rfl, rfl, rfl, ?_, fun k hk => ?_⟩
  · show w.heap.size ≤ (w.heap ++ os).size
    rw [Array.size_append]; exact Nat.le_add_right _ _
  · show (w.heap ++ os)[k]? = _
    rw [Array.getElem?_append_left hk]
/-! Digits. -/
def digS (n : Int) : List UInt8 := if n < 0 then [] else Lib.decDigits n.toNat
end Go.Proofs.YtkaeoflgnnlbeaaGreatDoor
/- What is proved: decimal digits and numbers, by the program and by the document. Conditions: the library's table lies as its text lays it (where the program writes digits). -/
namespace Go.Proofs.YtkaeoflgnnlbeaaGreatDoor
open Go.RowKit Go.Sort Go.Shelf
set_option linter.unusedVariables false
theorem GItoa_any (n : Nat) (h1 : n ≤ 9223372036854775807) (w : World) (ht : Tab10 w) : Calls Tryz.prog 133 #[.int .i64 n] w fun e w' => e = .returned (.string (strB (Lib.decDigits n))) ∧ Below w.heap.size w w' := by
  have h := Any.strconv_Itoa itoaL (n : Int) (by omega) (by omega) w ht
  refine h.mono ?_
  rintro e w' ⟨rfl, k, os, rfl⟩
  refine ⟨?_, grow_below w k os⟩
  rw [show Lib.itoa (n : Int) = Lib.decDigits n by rw [Lib.itoa, if_neg (by omega), Int.toNat_natCast]]
  rfl
set_option maxHeartbeats 1000000 in
set_option maxRecDepth 100000 in
theorem VDigits_any (n : Int) (h1 : n ≤ 9223372036854775807) (w : World) (ht : Tab10 w) : Calls Tryz.prog 107 #[.int .i64 n] w fun e w' => e = .returned (.string (strB (digS n))) ∧ Below w.heap.size w w' := by
  by_cases h0 : n < 0
  · have hd : strB (digS n) = ByteArray.mk #[] := by rw [digS, if_pos h0]; rfl
    rw [hd]
    go_enter Tryz.func107, Tryz.ntmps107
    go_wp2_with fail
    go_ret
    exact ⟨rfl, (Fr.refl (fun _ => False) w).below (fun _ _ e => e)⟩
  · obtain ⟨m, rfl⟩ : ∃ m : Nat, n = m := ⟨n.toNat, by omega⟩
    have hd : digS (m : Int) = Lib.decDigits m := by rw [digS, if_neg h0, Int.toNat_natCast]
    rw [hd]
    have hc := Lib.hid (GItoa_any m (by omega) w ht)
    obtain ⟨S, hS⟩ : ∃ S, strB (Lib.decDigits m) = S := ⟨_, rfl⟩
    rw [hS] at hc ⊢
    clear hS hd ht
    go_enter Tryz.func107, Tryz.ntmps107
    go_wp2_with (go_at_call 133; refine hc.out.mono ?_; rintro e w' ⟨rfl, bb⟩)
    go_ret
    exact ⟨rfl, bb⟩
end Go.Proofs.YtkaeoflgnnlbeaaGreatDoor
/- What is proved: lines are laid behind bytes of the call's own, by the program. Conditions: the library's table lies as its text lays it. -/
namespace Go.Proofs.YtkaeoflgnnlbeaaGreatDoor
open Go.RowKit Go.Sort Go.Shelf
set_option linter.unusedVariables false
theorem OwnB.nil {w0 w : World} (f : Fr (fun _ => False) w0 w) : OwnB w0 w (.slice none 0 0) [] := ⟨World.ownsRow_nil w w0.heap.size 5 1, f⟩
theorem OwnB.grow {w0 w w' : World} {v v' : Value} {l m : List UInt8} (h : OwnB w0 w v l) {n k : Nat} (hn : n = l.length) (hk : k = m.length) (o : w'.ownsRow w0.heap.size 5 1 v' (n + k) (bytesV l ++ bytesV m)) (g : w.grownBy w' v.ownBlock) : OwnB w0 w' v' (l ++ m) := by
  refine ⟨?_, fr_append h.1 h.2 g⟩
  rw [List.length_append, bytesV_append, ← hn, ← hk]
  exact o
theorem OwnB.weaken {w0 w1 w : World} {v : Value} {l : List UInt8} (h : OwnB w1 w v l) (f : Fr (fun _ => False) w0 w1) : OwnB w0 w v l := by
  refine ⟨⟨h.1.1, ?_⟩, f.trans h.2 (fun _ _ e => e)⟩
  rcases h.1.2 with h0 | ⟨g, cap, cur, hv, hb, r⟩
  · exact .inl h0
  · exact .inr ⟨g, cap, cur, hv, Nat.le_trans f.size hb, r⟩
/-- A text's bytes, in a row of their own. -/
theorem conv_str (w : World) (l : List UInt8) : ∃ c w', (convert 9 25 (.string (strB l))).run Tryz.prog w = .ok (.slice (some ⟨w.heap.size, 0, none⟩) (strB l).size c) w' ∧ Fr (fun _ => False) w w' ∧ Lies w' (some ⟨w.heap.size, 0, none⟩) (bytesV l) := by
  refine ⟨_, _, run_bytes_of_string w 9 25 5 (strB l) Tryz.underlying9 Tryz.underlying25 Tryz.underlying5, (Fr.refl _ w).drew.alloc _, .inr ⟨w.heap.size, 0, rfl, fun j u hu => ?_⟩⟩
  show (w.drew.alloc _).cell? ⟨w.drew.heap.size, 0 + j, none⟩ = _
  rw [Nat.zero_add, cell_of_row _ _ _ _ _ _ (heap_alloc_new w.drew _)]
  have hj : j < l.length := by
    have := (List.getElem?_eq_some_iff.1 hu).1
    rwa [bytesV_length] at this
  rw [bytesRow, Array.getElem?_append_left (by simpa [strB] using hj), Array.getElem?_map]
  rw [bytesV, List.getElem?_map] at hu
  simpa [strB, byteV] using hu
end Go.Proofs.YtkaeoflgnnlbeaaGreatDoor
/- What is proved: what the walks of this seat need of layers below, merged out of the texts Oba Obd Obe (of each just what is needed). Conditions: each theorem names its own. -/
/- What is proved: the words of the kinds, by the program and by the document. Conditions: none. -/
namespace Go.Proofs.YtkaeoflgnnlbeaaGreatDoor
open Go.RowKit
set_option linter.unusedVariables false
/-- A kind's word. -/
def wordOb (k : Int) : List UInt8 := if k = 1 then [98, 108, 111, 98] else if k = 2 then [116, 114, 101, 101] else if k = 3 then [99, 111, 109, 109, 105, 116] else if k = 4 then [116, 97, 103] else []
theorem wordB_none {k : Int} (h : k < 1 ∨ 4 < k) : wordOb k = [] := by
  rw [wordOb, if_neg (by omega), if_neg (by omega), if_neg (by omega), if_neg (by omega)]
theorem kind_cases (k : Int) : k = 1 ∨ k = 2 ∨ k = 3 ∨ k = 4 ∨ ((k < 1 ∨ 4 < k) ∧ (k == 1) = false ∧ (k == 2) = false ∧ (k == 3) = false ∧ (k == 4) = false) := by
  by_cases h : k < 1 ∨ 4 < k
  · exact .inr (.inr (.inr (.inr ⟨h, by simp; omega, by simp; omega, by simp; omega, by simp; omega⟩)))
  · omega
theorem wordB_len (k : Int) : (wordOb k).length ≤ 6 := by
  rcases kind_cases k with rfl | rfl | rfl | rfl | ⟨h, _⟩
  · decide
  · decide
  · decide
  · decide
  · rw [wordB_none h]; decide
set_option maxHeartbeats 1600000 in
set_option maxRecDepth 100000 in
theorem ObWord_any (k : Int) (w : World) : Calls Tryz.prog 106 #[.int .i64 k] w fun e w' => e = .returned (.string (strB (wordOb k))) ∧ w = w' := by
  rcases kind_cases k with rfl | rfl | rfl | rfl | ⟨h, h1, h2, h3, h4⟩
  · go_enter Tryz.func106, Tryz.ntmps106
    go_wp2
    go_ret
    exact ⟨rfl, rfl⟩
  · go_enter Tryz.func106, Tryz.ntmps106
    go_wp2
    go_ret
    exact ⟨rfl, rfl⟩
  · go_enter Tryz.func106, Tryz.ntmps106
    go_wp2
    go_ret
    exact ⟨rfl, rfl⟩
  · go_enter Tryz.func106, Tryz.ntmps106
    go_wp2
    go_ret
    exact ⟨rfl, rfl⟩
  · rw [wordB_none h]
    go_enter Tryz.func106, Tryz.ntmps106
    go_wp2
    go_ret
    exact ⟨rfl, rfl⟩
end Go.Proofs.YtkaeoflgnnlbeaaGreatDoor
/- What is proved: appends onto bytes that were made of a text (a row with a mark behind its cells). Conditions: nothing is too long for any machine. -/
namespace Go.Proofs.YtkaeoflgnnlbeaaGreatDoor
open Go.RowKit Go.Sort Go.Shelf
set_option linter.unusedVariables false
/-- Bytes of the call's own, in a row of which no cell is frozen. -/
def OwnF (w0 w : World) (v : Value) (l : List UInt8) : Prop := ∃ g cap, v = .slice (some ⟨g, 0, none⟩) l.length cap ∧ w0.heap.size ≤ g ∧ g < w.heap.size ∧ l.length ≤ cap ∧ cap ≤ maxLen ∧ (∀ j, j < cap → (w.cell? ⟨g, j, none⟩).isSome = true) ∧ (∀ j, j < cap → w.frozen? ⟨g, j, none⟩ = false) ∧ w.rangeAt g 0 (bytesV l) ∧ Fr (fun _ => False) w0 w
theorem OwnF.fr2 {w0 w : World} {v : Value} {l : List UInt8} (h : OwnF w0 w v l) : Fr (fun _ => False) w0 w := by
  obtain ⟨_, _, _, _, _, _, _, _, _, _, h⟩ := h
  exact h
theorem OwnF.slice {w0 w : World} {v : Value} {l : List UInt8} (h : OwnF w0 w v l) : ∃ A c, v = .slice A l.length c ∧ l.length ≤ c ∧ Lies w A (bytesV l) := by
  obtain ⟨g, cap, hv, _, _, hc, _, _, _, hr, _⟩ := h
  exact ⟨_, cap, hv, hc, .inr ⟨g, 0, rfl, hr⟩⟩
theorem frozen_heap {w w' : World} {g : Nat} (h : w'.heap[g]? = w.heap[g]?) (j : Nat) : w'.frozen? ⟨g, j, none⟩ = w.frozen? ⟨g, j, none⟩ := by
  unfold World.frozen?
  rw [h]
theorem cell_heap {w w' : World} {g : Nat} (h : w'.heap[g]? = w.heap[g]?) (j : Nat) : w'.cell? ⟨g, j, none⟩ = w.cell? ⟨g, j, none⟩ := by
  unfold World.cell?
  rw [h]
theorem OwnF.fr {w0 w w' : World} {v : Value} {l : List UInt8} (h : OwnF w0 w v l) (f : Fr (fun _ => False) w w') : OwnF w0 w' v l := by
  obtain ⟨g, cap, hv, h1, h2, h3, h4, h5, h6, h7, h8⟩ := h
  have hb := f.block g h2 (fun e => e)
  refine ⟨g, cap, hv, h1, Nat.lt_of_lt_of_le h2 f.size, h3, h4, fun j hj => ?_, fun j hj => ?_, fun j u hu => ?_, h8.trans f (fun _ _ e => e)⟩
  · rw [cell_heap hb]; exact h5 j hj
  · rw [frozen_heap hb]; exact h6 j hj
  · rw [cell_heap hb]; exact h7 j u hu
theorem OwnF.weaken {w0 w1 w : World} {v : Value} {l : List UInt8} (h : OwnF w1 w v l) (f : Fr (fun _ => False) w0 w1) : OwnF w0 w v l := by
  obtain ⟨g, cap, hv, h1, h2, h3, h4, h5, h6, h7, h8⟩ := h
  exact ⟨g, cap, hv, Nat.le_trans f.size h1, h2, h3, h4, h5, h6, h7, f.trans h8 (fun _ _ e => e)⟩
theorem fr_setCells {S : Nat → Prop} {w : World} {g : Nat} : ∀ (vs : List Value) (o : Nat) (w' : World), Fr S w w' → (g < w.heap.size → S g) → Fr S w (w'.setCells g o vs)
  | [], _, _, h, _ => h
  | v :: r, o, w', h, hs => by
    rw [World.setCells]
    exact fr_setCells r (o + 1) _ (h.setCell hs v) hs
theorem size_setCells' (g : Nat) : ∀ (vs : List Value) (o : Nat) (w : World), (w.setCells g o vs).heap.size = w.heap.size
  | [], _, _ => rfl
  | v :: r, o, w => by rw [World.setCells, size_setCells' g r]; simp [World.setCell]
/-- A row just laid. -/
theorem ownF_new (w0 w : World) (l : List UInt8) (cap : Nat) (cur : Array Value) (fz : Nat × Nat) (f : Fr (fun _ => False) w0 w) (hcs : cur.size = cap) (hl : l.length ≤ cap) (hm : cap ≤ maxLen) (hz : cap ≤ fz.1 ∨ fz.2 = 0) (hx : ∀ (j : Nat) (u : Value), (bytesV l)[j]? = some u → cur[j]? = some u) :
    OwnF w0 (w.alloc (.cells cur 5 fz)) (.slice (some ⟨w.heap.size, 0, none⟩) l.length cap) l := by
  have hb : (w.alloc (.cells cur 5 fz)).heap[w.heap.size]? = some (.cells cur 5 fz) := heap_alloc_new w _
  refine ⟨w.heap.size, cap, rfl, f.size, by simp, hl, hm, fun j hj => ?_, fun j hj => ?_, fun j u hu => ?_, f.alloc _⟩
  · rw [cell_of_row _ _ _ _ _ _ hb, Array.getElem?_eq_getElem (by omega)]; rfl
  · unfold World.frozen?
    rw [hb]
    rcases hz with hz | hz
    · simp; omega
    · simp [hz]
  · rw [Nat.zero_add, cell_of_row _ _ _ _ _ _ hb]
    exact hx j u hu
/-- A text's bytes, in a row of their own. -/
theorem conv_own (w : World) (l : List UInt8) (hl : l.length ≤ 1000000) : ∃ v w', (convert 9 25 (.string (strB l))).run Tryz.prog w = .ok v w' ∧ OwnF w w' v l := by
  have h := run_bytes_of_string (P := Tryz.prog) w 9 25 5 (strB l) Tryz.underlying9 Tryz.underlying25 Tryz.underlying5
  have hs := strB_size l
  have hge := grownCap_ge w (strB l).size 0 5
  have hcm := grownCap_le_maxLen w (strB l).size 0 5 (by rw [hs]; unfold maxLen; omega)
  have hsz : (bytesRow (strB l) (grownCap w (strB l).size 0 5)).size = grownCap w (strB l).size 0 5 := by
    have e : (strB l).data.size = (strB l).size := rfl
    rw [bytesRow, Array.size_append, Array.size_map, Array.size_replicate, e]
    omega
  refine ⟨_, _, h, ?_⟩
  have hn := ownF_new w w.drew l (grownCap w (strB l).size 0 5) (bytesRow (strB l) (grownCap w (strB l).size 0 5)) ((bytesRow (strB l) (grownCap w (strB l).size 0 5)).size, (bytesRow (strB l) (grownCap w (strB l).size 0 5)).size + 1) ((Fr.refl _ w).drew) hsz (by rw [← hs]; exact hge) hcm (.inl (by rw [hsz]; exact Nat.le_refl _)) (fun j u hu => by
    have hj : j < l.length := by
      have := (List.getElem?_eq_some_iff.1 hu).1
      rwa [bytesV_length] at this
    rw [bytesRow, Array.getElem?_append_left (by simpa [strB] using hj), Array.getElem?_map]
    rw [bytesV, List.getElem?_map] at hu
    simpa [strB, byteV] using hu)
  rw [hs] at hn ⊢
  exact hn
theorem run_append_own {w0 w : World} {v : Value} {l : List UInt8} (h : OwnF w0 w v l) (t : List UInt8) (x : Value) (m : Nat) (tx : TypeId) (hm : m = t.length) (hs : Src Tryz.prog 1 tx x m (bytesV t) w) (hl : l.length ≤ 1000000) (ht : t.length ≤ 1000000) :
    ∃ v' w', (Builtin.append_ #[25, tx] 25 #[v, x]).run Tryz.prog w = .ok v' w' ∧ OwnF w0 w' v' (l ++ t) := by
  subst hm
  obtain ⟨i0, hi, hz0, hz1, hz2⟩ := info_parts info_u8
  obtain ⟨g, cap, hv, h1, h2, h3, h4, h5, h6, h7, h8⟩ := h
  subst hv
  have hlen : (l ++ t).length = l.length + t.length := List.length_append
  by_cases hroom : l.length + t.length ≤ cap
  · have hr := run_append_room_src (P := Tryz.prog) w 25 tx 25 5 i0 Tryz.underlying25 hi g 0 l.length cap x t.length (bytesV t) (by rw [hz1]; exact hs) hroom
      (fun j hj => by rw [bytesV_length] at hj; rw [hz1, Nat.zero_add, Nat.mul_one]; exact h5 _ (by omega)) (fun j hj => by rw [bytesV_length] at hj; rw [hz1, Nat.zero_add, Nat.mul_one]; exact h6 _ (by omega))
    rw [hz1, Nat.zero_add, Nat.mul_one] at hr
    refine ⟨_, _, hr, g, cap, by rw [hlen], h1, by rw [size_setCells']; exact h2, by rw [hlen]; exact hroom, h4, fun j hj => ?_, fun j hj => ?_, ?_, ?_⟩
    · exact World.isSome_setCells g _ _ w _ (h5 j hj)
    · rw [World.frozen?_setCells]; exact h6 j hj
    · rw [bytesV_append]
      have a1 := World.rangeAt_setCells_apart (w := w) h7 g l.length (bytesV t) (.inr (.inl (by rw [bytesV_length]; omega)))
      have a2 := World.rangeAt_setCells_same w g l.length (bytesV t) (fun j hj => ⟨by rw [bytesV_length] at hj; exact h5 _ (by omega), by rw [bytesV_length] at hj; exact h6 _ (by omega)⟩)
      intro j u hu
      rcases Nat.lt_or_ge j (bytesV l).length with hj | hj
      · rw [List.getElem?_append_left hj] at hu
        exact a1 j u hu
      · rw [List.getElem?_append_right hj] at hu
        have := a2 _ u hu
        rw [bytesV_length] at this hj
        rwa [show l.length + (j - l.length) = 0 + j by omega] at this
    · exact fr_setCells _ _ _ h8 (fun hg => absurd hg (by omega))
  · have hold : (Builtin.firstCells i0.size l.length (.slice (some ⟨g, 0, none⟩) l.length cap)).run Tryz.prog w.drew = .ok (bytesV l).toArray w.drew := by
      rw [hz1]
      refine run_firstCells_some w.drew 1 l.length ⟨g, 0, none⟩ l.length cap (bytesV l) (by rw [bytesV_length, Nat.mul_one]) (fun j u hu => ?_)
      rw [add_off]
      exact h7 j u hu
    have hr := run_append_grow_src (P := Tryz.prog) w 25 tx 25 5 i0 (.int .u8 0) Tryz.underlying25 hi hz0 (some ⟨g, 0, none⟩) l.length cap (bytesV l) hold x t.length (bytesV t) (by rw [hz1]; exact hs) (by omega) (by omega) (growslice_fits (by omega) (by rw [hz2]; omega))
    have hge := grownCap_ge w (l.length + t.length) cap 5
    have hcm := grownCap_le_maxLen w (l.length + t.length) cap 5 (by unfold maxLen; omega)
    refine ⟨_, _, hr, ?_⟩
    have hn := ownF_new w0 w.drew (l ++ t) (grownCap w (l.length + t.length) cap 5) ((bytesV l ++ bytesV t).toArray ++ Builtin.zeroCells (Value.int .u8 0).cells (grownCap w (l.length + t.length) cap 5 - (l.length + t.length))) (0, 0) h8.drew
      (by rw [Array.size_append, List.size_toArray, size_zeroCells, List.length_append, bytesV_length, bytesV_length]; show _ + _ * 1 = _; omega) (by rw [hlen]; exact hge) hcm (.inr rfl) (fun j u hu => by
        rw [← bytesV_append]
        have hj : j < (bytesV (l ++ t)).length := (List.getElem?_eq_some_iff.1 hu).1
        rw [Array.getElem?_append_left (by simpa using hj)]
        simpa using hu)
    rw [hlen] at hn
    exact hn
theorem wpList_append_own {ops : Array Oper} {rest : List Oper} {o : Oper} {a : Act} {w : World} {Q : Exit → Act → World → Prop} (hgd : o.guard = none) (s x : Operand) (tx : TypeId)
    (ho : o.op = .call { callee := .builtin .append, args := #[s, x], argTypes := #[25, tx] }) (hty : o.type = 25)
    {w0 : World} {v : Value} {l : List UInt8} (hv : a.eval s = v) (h : OwnF w0 w v l) (t : List UInt8) (y : Value) (m : Nat) (hx : a.eval x = y) (hm : m = t.length) (hs : Src Tryz.prog 1 tx y m (bytesV t) w) (hl : l.length ≤ 1000000) (ht : t.length ≤ 1000000)
    (hn : ∀ v' w', OwnF w0 w' v' (l ++ t) → wpList Tryz.prog ops Q rest (a.put o.dst v') w') : wpList Tryz.prog ops Q (o :: rest) a w :=
  wpList_plain hgd fun K hK => by
    obtain ⟨v', w', hrun, h2⟩ := run_append_own h t y m tx hm hs hl ht
    unfold Oper.wp execOp
    simp only [ho, hty, resolve, invoke, builtin, Sem.run_bind, Sem.run_pure, Result.andThen_ok, List.map_toArray, List.map_cons, List.map_nil, hv, hx, hrun]
    exact hK _ _ (hn v' w' h2)
end Go.Proofs.YtkaeoflgnnlbeaaGreatDoor
/- What is proved: what stands ahead of an object's body, and an object as bytes, by the program and by the document. Conditions: the library's table lies as its text lays it; the body's cells are there. -/
namespace Go.Proofs.YtkaeoflgnnlbeaaGreatDoor
open Go.RowKit Go.Sort Go.Shelf
set_option linter.unusedVariables false
theorem digO_len (n : Int) (hn : n ≤ 9223372036854775807) : (digS n).length ≤ 21 := by
  unfold digS
  split
  · exact Nat.zero_le _
  · have := Lib.itoa_length_le n (by omega) hn
    rwa [Lib.itoa, if_neg (by omega)] at this
/-- What stands ahead of a body. -/
def headB (k n : Int) : List UInt8 := wordOb k ++ [32] ++ digS n ++ [0]
theorem headB_len (k n : Int) (hn : n ≤ 9223372036854775807) : (headB k n).length ≤ 40 := by
  have h1 := wordB_len k
  have h2 := digO_len n hn
  simp only [headB, List.length_append, List.length_cons, List.length_nil]
  omega
set_option maxHeartbeats 3200000 in
set_option maxRecDepth 100000 in
theorem Obhead_any (k n : Int) (hn : n ≤ 9223372036854775807) (w : World) (hTab : Tab10 w) :
    Calls Tryz.prog 74 #[.int .i64 k, .int .i64 n] w fun e w' => ∃ v, e = .returned v ∧ OwnF w w' v (headB k n) := by
  have hwl := wordB_len k
  have hdl := digO_len n hn
  have HW := Lib.hid (fun w => ObWord_any k w)
  have HD := Lib.hid (VDigits_any n hn w hTab)
  have a1 : ∀ w, (Op.stringOp .add (strB (wordOb k)) (ByteArray.mk #[32])).run Tryz.prog w = .ok (.string (strB (wordOb k ++ [32]))) w := fun w => add_str (wordOb k) [32] (by simp; omega) w
  have a2 : ∀ w, (Op.stringOp .add (strB (wordOb k ++ [32])) (strB (digS n))).run Tryz.prog w = .ok (.string (strB (wordOb k ++ [32] ++ digS n))) w := fun w => add_str (wordOb k ++ [32]) (digS n) (by simp; omega) w
  have hlen : (wordOb k ++ [32] ++ digS n).length ≤ 40 := by simp only [List.length_append, List.length_cons, List.length_nil]; omega
  have HC := Lib.hid (fun w => conv_own w (wordOb k ++ [32] ++ digS n) (by omega))
  have HH : Hid (headB k n = (wordOb k ++ [32] ++ digS n) ++ [0]) := Lib.hid rfl
  obtain ⟨X, hX⟩ : ∃ X, wordOb k ++ [32] ++ digS n = X := ⟨_, rfl⟩
  rw [hX] at a2 HC HH hlen
  obtain ⟨S1, hS1⟩ : ∃ S, strB (wordOb k) = S := ⟨_, rfl⟩
  obtain ⟨S2, hS2⟩ : ∃ S, strB (wordOb k ++ [32]) = S := ⟨_, rfl⟩
  obtain ⟨S3, hS3⟩ : ∃ S, strB (digS n) = S := ⟨_, rfl⟩
  obtain ⟨S4, hS4⟩ : ∃ S, strB X = S := ⟨_, rfl⟩
  rw [hS1] at HW a1
  rw [hS2] at a1 a2
  rw [hS3] at HD a2
  rw [hS4] at a2 HC
  clear hX hS1 hS2 hS3 hS4 hwl hdl hn hTab
  go_enter Tryz.func74, Tryz.ntmps74
  go_wp2_with (first
    | (go_at_call 106; refine (HW.out _).mono ?_; rintro e w' ⟨rfl, rfl⟩)
    | (go_at_call 107; refine HD.out.mono ?_; rintro e w2 ⟨rfl, b2⟩; obtain ⟨v3, w3, hcv, o3⟩ := HC.out w2; have O3 := Lib.hid (o3.weaken (Fr.of_below (S := fun _ => False) b2)); clear o3 b2)
    | (at_builtin; refine wpList_append_own rfl (.tmp 11) (.tmp 12) 25 rfl rfl rfl (O3.out.fr ((Fr.refl (fun _ => False) w3).alloc _)) [0] _ 1 rfl rfl (src_oneT Tryz.underlying25 w3 (.int .u8 0) rfl) (by omega) (by decide) ?_
       intro v4 w4 o4
       have O4 := Lib.hid o4
       clear o4))
  go_ret
  exact ⟨_, rfl, by rw [HH.out]; exact O4.out⟩
end Go.Proofs.YtkaeoflgnnlbeaaGreatDoor

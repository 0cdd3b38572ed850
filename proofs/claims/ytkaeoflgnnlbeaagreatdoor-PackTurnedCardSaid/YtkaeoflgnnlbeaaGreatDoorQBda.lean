/- What is proved: texts that stand one behind the other: Bda Ck. Conditions: each theorem names its own. -/
import Derived.Test.YtkaeoflgnnlbeaaGreatDoorBd
import Derived.Test.YtkaeoflgnnlbeaaGreatDoorCj
import Derived.Test.YtkaeoflgnnlbeaaGreatDoorCd
import Derived.Laws.StructEq
import Derived.Test.YtkaeoflgnnlbeaaGreatDoorBq
/- What is proved: what the walks of this seat need of layers below, merged out of the texts Oba Obc Obd Obe (of each just what is needed). Conditions: each theorem names its own. -/
/- What is proved: the words of the kinds, by the program and by the document. Conditions: none. -/
namespace Go.Proofs.YtkaeoflgnnlbeaaGreatDoor
open Go.RowKit
set_option linter.unusedVariables false
/-- A kind's word. -/
def wordOb (k : Int) : List UInt8 := if k = 1 then [98, 108, 111, 98] else if k = 2 then [116, 114, 101, 101] else if k = 3 then [99, 111, 109, 109, 105, 116] else if k = 4 then [116, 97, 103] else []
theorem wordB_none {k : Int} (h : k < 1 ∨ 4 < k) : wordOb k = [] := by
  rw [wordOb, if_neg (by omega), if_neg (by omega), if_neg (by omega), if_neg (by omega)]
theorem kind_cases (k : Int) : k = 1 ∨ k = 2 ∨ k = 3 ∨ k = 4 ∨ ((k < 1 ∨ 4 < k) ∧ (k == 1) = false ∧ (k == 2) = false ∧ (k == 3) = false ∧ (k == 4) = false) := by
  by_cases h : k < 1 ∨ 4 < k
  · exact .inr (.inr (.inr (.inr ⟨h, by simp; omega, by simp; omega, by simp; omega, by simp; omega⟩)))
  · omega
theorem wordB_len (k : Int) : (wordOb k).length ≤ 6 := by
  rcases kind_cases k with rfl | rfl | rfl | rfl | ⟨h, _⟩
  · decide
  · decide
  · decide
  · decide
  · rw [wordB_none h]; decide
set_option maxHeartbeats 1600000 in
set_option maxRecDepth 100000 in
theorem ObWord_any (k : Int) (w : World) : Calls Tryz.prog 106 #[.int .i64 k] w fun e w' => e = .returned (.string (strB (wordOb k))) ∧ w = w' := by
  rcases kind_cases k with rfl | rfl | rfl | rfl | ⟨h, h1, h2, h3, h4⟩
  · go_enter Tryz.func106, Tryz.ntmps106
    go_wp2
    go_ret
    exact ⟨rfl, rfl⟩
  · go_enter Tryz.func106, Tryz.ntmps106
    go_wp2
    go_ret
    exact ⟨rfl, rfl⟩
  · go_enter Tryz.func106, Tryz.ntmps106
    go_wp2
    go_ret
    exact ⟨rfl, rfl⟩
  · go_enter Tryz.func106, Tryz.ntmps106
    go_wp2
    go_ret
    exact ⟨rfl, rfl⟩
  · rw [wordB_none h]
    go_enter Tryz.func106, Tryz.ntmps106
    go_wp2
    go_ret
    exact ⟨rfl, rfl⟩
end Go.Proofs.YtkaeoflgnnlbeaaGreatDoor
/- What is proved: what a body of a kind tells, and whether it may be one, by the program and by the document. Conditions: the body's cells are there. -/
namespace Go.Proofs.YtkaeoflgnnlbeaaGreatDoor
open Go.RowKit Go.Sort Go.Shelf
open Ids (idC dgt big idC_size idC_get idC_one cellD zero32 size32 dgt_lt hexB)
set_option linter.unusedVariables false
/-- What a body of a kind is asked. -/
def chkO (k : Int) (l : List UInt8) : Int := if k < 1 ∨ 4 < k then 19 else if 4000 < l.length then 3 else if k = 2 then (getW l []).2 else if k = 3 then (getR l).2 else if k = 4 then (getM l).2 else 0
/-- What a body of a kind tells. -/
def Told (w w' : World) (k : Int) (l : List UInt8) (v : Value) : Prop :=
  (k = 2 → l.length ≤ 4000 → ∃ u, v = .iface 184 u ∧ OwnE w w' u (getW l []).1) ∧
  (k = 3 → l.length ≤ 4000 → ∃ u, v = .iface 188 (.agg (revC (getR l).1.T u (getR l).1.a (getR l).1.n (getR l).1.t)) ∧ OwnI w w' u (getR l).1.ps) ∧
  (k = 4 → l.length ≤ 4000 → v = .iface 192 (.agg (markC (getM l).1.T (getM l).1.k (getM l).1.a (getM l).1.n (getM l).1.t))) ∧
  (k = 1 → v = .nilIface)
theorem chkO_bad {k : Int} {l : List UInt8} (h : k < 1 ∨ 4 < k) : chkO k l = 19 := by rw [chkO, if_pos h]
theorem chkO_long {k : Int} {l : List UInt8} (h : ¬ (k < 1 ∨ 4 < k)) (h2 : 4000 < l.length) : chkO k l = 3 := by rw [chkO, if_neg h, if_pos h2]
theorem chkO_1 {l : List UInt8} (h2 : ¬ 4000 < l.length) : chkO 1 l = 0 := by rw [chkO, if_neg (by omega), if_neg h2, if_neg (by omega), if_neg (by omega), if_neg (by omega)]
theorem chkO_2 {l : List UInt8} (h2 : ¬ 4000 < l.length) : chkO 2 l = (getW l []).2 := by rw [chkO, if_neg (by omega), if_neg h2, if_pos rfl]
theorem chkO_3 {l : List UInt8} (h2 : ¬ 4000 < l.length) : chkO 3 l = (getR l).2 := by rw [chkO, if_neg (by omega), if_neg h2, if_neg (by omega), if_pos rfl]
theorem chkO_4 {l : List UInt8} (h2 : ¬ 4000 < l.length) : chkO 4 l = (getM l).2 := by rw [chkO, if_neg (by omega), if_neg h2, if_neg (by omega), if_neg (by omega), if_pos rfl]
set_option maxHeartbeats 3200000 in
set_option maxRecDepth 100000 in
theorem Obread_any (k : Int) (A : Option Addr) (c : Nat) (l : List UInt8) (hcap : l.length ≤ c) (w : World) (h : Lies w A (bytesV l)) :
    Calls Tryz.prog 105 #[.int .i64 k, .slice A l.length c] w fun e w' => ∃ v, e = .returned (.tuple #[v, .int .i64 (chkO k l)]) ∧ Told w w' k l v ∧ Fr (fun _ => False) w w' := by
  have HW := Lib.hid (fun w => ObWord_any k w)
  by_cases hk : k < 1 ∨ 4 < k
  · rw [chkO_bad hk]
    rw [wordB_none hk] at HW
    have HT : Hid (∀ v, Told w w k l v) := Lib.hid (fun v => ⟨fun e => by omega, fun e => by omega, fun e => by omega, fun e => by omega⟩)
    obtain ⟨n, hn⟩ : ∃ n, l.length = n := ⟨_, rfl⟩
    rw [hn]
    have he2 : (strB []).toList = [] := strB_list []
    have he1 : (strB []).toList.isEmpty = true := by rw [he2]; rfl
    obtain ⟨W, hW⟩ : ∃ W, strB [] = W := ⟨_, rfl⟩
    rw [hW] at HW he1 he2
    clear hn h hcap hW
    go_enter Tryz.func105, Tryz.ntmps105
    go_wp2_with (go_at_call 106; refine (HW.out _).mono ?_; rintro e w' ⟨rfl, rfl⟩)
    go_ret2
    exact ⟨_, rfl, HT.out _, Fr.refl _ _⟩
  · have hwn : ¬ (strB (wordOb k)).toList = [] ∧ (strB (wordOb k)).toList.isEmpty = false := by
      rw [strB_list]
      rcases kind_cases k with rfl | rfl | rfl | rfl | ⟨hb, _⟩
      · decide
      · decide
      · decide
      · decide
      · omega
    obtain ⟨W, hW⟩ : ∃ W, strB (wordOb k) = W := ⟨_, rfl⟩
    rw [hW] at HW hwn
    obtain ⟨hw1, hw2⟩ := hwn
    clear hW
    by_cases h2 : 4000 < l.length
    · rw [chkO_long hk h2]
      have hlt : (4000 : Int) < (l.length : Int) := by omega
      have HT : Hid (∀ v, (k = 1 → v = Value.nilIface) → Told w w k l v) := Lib.hid (fun v hv => ⟨fun _ e => by omega, fun _ e => by omega, fun _ e => by omega, hv⟩)
      obtain ⟨n, hn⟩ : ∃ n, l.length = n := ⟨_, rfl⟩
      rw [hn] at hlt ⊢
      clear hn h hcap h2 hk
      go_enter Tryz.func105, Tryz.ntmps105
      go_wp2_with (go_at_call 106; refine (HW.out _).mono ?_; rintro e w' ⟨rfl, rfl⟩)
      go_ret2
      exact ⟨_, rfl, HT.out _ (fun _ => rfl), Fr.refl _ _⟩
    · have hlt : ¬ (4000 : Int) < (l.length : Int) := by omega
      have H2 := Lib.hid (TGet_all A c l (by omega) hcap w h)
      have H3 := Lib.hid (VGet_any A c l (by omega) w h)
      have H4 := Lib.hid (VGetMark_any A c l (by omega) w h)
      have E1 := Lib.hid (chkO_1 h2)
      have E2 := Lib.hid (chkO_2 h2)
      have E3 := Lib.hid (chkO_3 h2)
      have E4 := Lib.hid (chkO_4 h2)
      obtain ⟨n, hn⟩ : ∃ n, l.length = n := ⟨_, rfl⟩
      rw [hn] at hlt H2 H3 H4 ⊢
      clear hn h hcap h2
      rcases kind_cases k with rfl | rfl | rfl | rfl | ⟨hb, _⟩
      · rw [E1.out]
        have HT : Hid (Told w w 1 l .nilIface) := Lib.hid ⟨fun e => by omega, fun e => by omega, fun e => by omega, fun _ => rfl⟩
        go_enter Tryz.func105, Tryz.ntmps105
        go_wp2_with (go_at_call 106; refine (HW.out _).mono ?_; rintro e w' ⟨rfl, rfl⟩)
        go_ret2
        exact ⟨_, rfl, HT.out, Fr.refl _ _⟩
      · rw [E2.out]
        have HT : Hid (∀ w' u, OwnE w w' u (getW l []).1 → Told w w' 2 l (.iface 184 u)) := Lib.hid (fun w' u o => ⟨fun _ _ => ⟨u, rfl, o⟩, fun e => by omega, fun e => by omega, fun e => by omega⟩)
        obtain ⟨x, hx⟩ : ∃ x, (getW l []).2 = x := ⟨_, rfl⟩
        obtain ⟨es, hes⟩ : ∃ x, (getW l []).1 = x := ⟨_, rfl⟩
        rw [hx, hes] at H2
        rw [hes] at HT
        rw [hx]
        clear hx hes
        go_enter Tryz.func105, Tryz.ntmps105
        go_wp2_with (first
          | (go_at_call 106; refine (HW.out _).mono ?_; rintro e w' ⟨rfl, rfl⟩)
          | (go_at_call 130; refine H2.out.mono ?_; rintro e w' ⟨v, rfl, o⟩; have O2 := Lib.hid o; obtain ⟨A2, c2, rfl, _⟩ := o.slice))
        go_ret2
        exact ⟨_, rfl, HT.out _ _ O2.out, O2.out.2⟩
      · rw [E3.out]
        have HT : Hid (∀ w' u, OwnI w w' u (getR l).1.ps → Told w w' 3 l (.iface 188 (.agg (revC (getR l).1.T u (getR l).1.a (getR l).1.n (getR l).1.t)))) := Lib.hid (fun w' u o => ⟨fun e => by omega, fun _ _ => ⟨u, rfl, o⟩, fun e => by omega, fun e => by omega⟩)
        obtain ⟨X, hX⟩ : ∃ X, getR l = X := ⟨_, rfl⟩
        rw [hX] at H3 HT ⊢
        obtain ⟨⟨T, ps, a, t, n'⟩, x⟩ := X
        simp only [] at H3 HT ⊢
        clear hX
        go_enter Tryz.func105, Tryz.ntmps105
        go_wp2_with (first
          | (go_at_call 106; refine (HW.out _).mono ?_; rintro e w' ⟨rfl, rfl⟩)
          | (go_at_call 131; refine H3.out.mono ?_; rintro e w' ⟨v, rfl, o⟩; have O2 := Lib.hid o
             have HT2 := Lib.hid (HT.out _ _ o)
             obtain ⟨cr, hcr⟩ : ∃ c, revC T v a t n' = c := ⟨_, rfl⟩
             rw [hcr] at HT2 ⊢
             clear o hcr))
        go_ret2
        exact ⟨_, rfl, HT2.out, O2.out.2⟩
      · rw [E4.out]
        have HT : Hid (∀ w', Told w w' 4 l (.iface 192 (.agg (markC (getM l).1.T (getM l).1.k (getM l).1.a (getM l).1.n (getM l).1.t)))) := Lib.hid (fun w' => ⟨fun e => by omega, fun e => by omega, fun _ _ => rfl, fun e => by omega⟩)
        obtain ⟨X, hX⟩ : ∃ X, getM l = X := ⟨_, rfl⟩
        rw [hX] at H4 HT ⊢
        obtain ⟨⟨T, kk, a, t, n'⟩, x⟩ := X
        simp only [] at H4 HT ⊢
        obtain ⟨cr, hcr⟩ : ∃ c, markC T kk a t n' = c := ⟨_, rfl⟩
        rw [hcr] at H4 HT
        clear hX hcr
        go_enter Tryz.func105, Tryz.ntmps105
        go_wp2_with (first
          | (go_at_call 106; refine (HW.out _).mono ?_; rintro e w' ⟨rfl, rfl⟩)
          | (go_at_call 132; refine H4.out.mono ?_; rintro e w' ⟨rfl, f⟩; have F2 := Lib.hid f))
        go_ret2
        exact ⟨_, rfl, HT.out _, F2.out⟩
      · omega
theorem ObCheck_any (k : Int) (A : Option Addr) (c : Nat) (l : List UInt8) (hcap : l.length ≤ c) (w : World) (h : Lies w A (bytesV l)) :
    Calls Tryz.prog 73 #[.int .i64 k, .slice A l.length c] w fun e w' => e = .returned (.int .i64 (chkO k l)) ∧ Fr (fun _ => False) w w' := by
  have H := Lib.hid (Obread_any k A c l hcap w h)
  obtain ⟨n, hn⟩ : ∃ n, l.length = n := ⟨_, rfl⟩
  obtain ⟨x, hx⟩ : ∃ x, chkO k l = x := ⟨_, rfl⟩
  rw [hn, hx] at H
  rw [hn, hx]
  clear hn hx h hcap
  go_enter Tryz.func73, Tryz.ntmps73
  go_wp2_with (go_at_call 105; refine H.out.mono ?_; rintro e w' ⟨v, rfl, ht, f⟩; have F2 := Lib.hid f; clear ht f)
  go_ret
  exact ⟨rfl, F2.out⟩
end Go.Proofs.YtkaeoflgnnlbeaaGreatDoor
/- What is proved: appends onto bytes that were made of a text (a row with a mark behind its cells). Conditions: nothing is too long for any machine. -/
namespace Go.Proofs.YtkaeoflgnnlbeaaGreatDoor
open Go.RowKit Go.Sort Go.Shelf
set_option linter.unusedVariables false
/-- Bytes of the call's own, in a row of which no cell is frozen. -/
def OwnF (w0 w : World) (v : Value) (l : List UInt8) : Prop := ∃ g cap, v = .slice (some ⟨g, 0, none⟩) l.length cap ∧ w0.heap.size ≤ g ∧ g < w.heap.size ∧ l.length ≤ cap ∧ cap ≤ maxLen ∧ (∀ j, j < cap → (w.cell? ⟨g, j, none⟩).isSome = true) ∧ (∀ j, j < cap → w.frozen? ⟨g, j, none⟩ = false) ∧ w.rangeAt g 0 (bytesV l) ∧ Fr (fun _ => False) w0 w
theorem OwnF.fr2 {w0 w : World} {v : Value} {l : List UInt8} (h : OwnF w0 w v l) : Fr (fun _ => False) w0 w := by
  obtain ⟨_, _, _, _, _, _, _, _, _, _, h⟩ := h
  exact h
theorem OwnF.slice {w0 w : World} {v : Value} {l : List UInt8} (h : OwnF w0 w v l) : ∃ A c, v = .slice A l.length c ∧ l.length ≤ c ∧ Lies w A (bytesV l) := by
  obtain ⟨g, cap, hv, _, _, hc, _, _, _, hr, _⟩ := h
  exact ⟨_, cap, hv, hc, .inr ⟨g, 0, rfl, hr⟩⟩
theorem frozen_heap {w w' : World} {g : Nat} (h : w'.heap[g]? = w.heap[g]?) (j : Nat) : w'.frozen? ⟨g, j, none⟩ = w.frozen? ⟨g, j, none⟩ := by
  unfold World.frozen?
  rw [h]
theorem cell_heap {w w' : World} {g : Nat} (h : w'.heap[g]? = w.heap[g]?) (j : Nat) : w'.cell? ⟨g, j, none⟩ = w.cell? ⟨g, j, none⟩ := by
  unfold World.cell?
  rw [h]
theorem OwnF.fr {w0 w w' : World} {v : Value} {l : List UInt8} (h : OwnF w0 w v l) (f : Fr (fun _ => False) w w') : OwnF w0 w' v l := by
  obtain ⟨g, cap, hv, h1, h2, h3, h4, h5, h6, h7, h8⟩ := h
  have hb := f.block g h2 (fun e => e)
  refine ⟨g, cap, hv, h1, Nat.lt_of_lt_of_le h2 f.size, h3, h4, fun j hj => ?_, fun j hj => ?_, fun j u hu => ?_, h8.trans f (fun _ _ e => e)⟩
  · rw [cell_heap hb]; exact h5 j hj
  · rw [frozen_heap hb]; exact h6 j hj
  · rw [cell_heap hb]; exact h7 j u hu
theorem OwnF.weaken {w0 w1 w : World} {v : Value} {l : List UInt8} (h : OwnF w1 w v l) (f : Fr (fun _ => False) w0 w1) : OwnF w0 w v l := by
  obtain ⟨g, cap, hv, h1, h2, h3, h4, h5, h6, h7, h8⟩ := h
  exact ⟨g, cap, hv, Nat.le_trans f.size h1, h2, h3, h4, h5, h6, h7, f.trans h8 (fun _ _ e => e)⟩
theorem fr_setCells {S : Nat → Prop} {w : World} {g : Nat} : ∀ (vs : List Value) (o : Nat) (w' : World), Fr S w w' → (g < w.heap.size → S g) → Fr S w (w'.setCells g o vs)
  | [], _, _, h, _ => h
  | v :: r, o, w', h, hs => by
    rw [World.setCells]
    exact fr_setCells r (o + 1) _ (h.setCell hs v) hs
theorem size_setCells' (g : Nat) : ∀ (vs : List Value) (o : Nat) (w : World), (w.setCells g o vs).heap.size = w.heap.size
  | [], _, _ => rfl
  | v :: r, o, w => by rw [World.setCells, size_setCells' g r]; simp [World.setCell]
/-- A row just laid. -/
theorem ownF_new (w0 w : World) (l : List UInt8) (cap : Nat) (cur : Array Value) (fz : Nat × Nat) (f : Fr (fun _ => False) w0 w) (hcs : cur.size = cap) (hl : l.length ≤ cap) (hm : cap ≤ maxLen) (hz : cap ≤ fz.1 ∨ fz.2 = 0) (hx : ∀ (j : Nat) (u : Value), (bytesV l)[j]? = some u → cur[j]? = some u) :
    OwnF w0 (w.alloc (.cells cur 5 fz)) (.slice (some ⟨w.heap.size, 0, none⟩) l.length cap) l := by
  have hb : (w.alloc (.cells cur 5 fz)).heap[w.heap.size]? = some (.cells cur 5 fz) := heap_alloc_new w _
  refine ⟨w.heap.size, cap, rfl, f.size, by simp, hl, hm, fun j hj => ?_, fun j hj => ?_, fun j u hu => ?_, f.alloc _⟩
  · rw [cell_of_row _ _ _ _ _ _ hb, Array.getElem?_eq_getElem (by omega)]; rfl
  · unfold World.frozen?
    rw [hb]
    rcases hz with hz | hz
    · simp; omega
    · simp [hz]
  · rw [Nat.zero_add, cell_of_row _ _ _ _ _ _ hb]
    exact hx j u hu
/-- A text's bytes, in a row of their own. -/
theorem conv_own (w : World) (l : List UInt8) (hl : l.length ≤ 1000000) : ∃ v w', (convert 9 25 (.string (strB l))).run Tryz.prog w = .ok v w' ∧ OwnF w w' v l := by
  have h := run_bytes_of_string (P := Tryz.prog) w 9 25 5 (strB l) Tryz.underlying9 Tryz.underlying25 Tryz.underlying5
  have hs := strB_size l
  have hge := grownCap_ge w (strB l).size 0 5
  have hcm := grownCap_le_maxLen w (strB l).size 0 5 (by rw [hs]; unfold maxLen; omega)
  have hsz : (bytesRow (strB l) (grownCap w (strB l).size 0 5)).size = grownCap w (strB l).size 0 5 := by
    have e : (strB l).data.size = (strB l).size := rfl
    rw [bytesRow, Array.size_append, Array.size_map, Array.size_replicate, e]
    omega
  refine ⟨_, _, h, ?_⟩
  have hn := ownF_new w w.drew l (grownCap w (strB l).size 0 5) (bytesRow (strB l) (grownCap w (strB l).size 0 5)) ((bytesRow (strB l) (grownCap w (strB l).size 0 5)).size, (bytesRow (strB l) (grownCap w (strB l).size 0 5)).size + 1) ((Fr.refl _ w).drew) hsz (by rw [← hs]; exact hge) hcm (.inl (by rw [hsz]; exact Nat.le_refl _)) (fun j u hu => by
    have hj : j < l.length := by
      have := (List.getElem?_eq_some_iff.1 hu).1
      rwa [bytesV_length] at this
    rw [bytesRow, Array.getElem?_append_left (by simpa [strB] using hj), Array.getElem?_map]
    rw [bytesV, List.getElem?_map] at hu
    simpa [strB, byteV] using hu)
  rw [hs] at hn ⊢
  exact hn
theorem run_append_own {w0 w : World} {v : Value} {l : List UInt8} (h : OwnF w0 w v l) (t : List UInt8) (x : Value) (m : Nat) (tx : TypeId) (hm : m = t.length) (hs : Src Tryz.prog 1 tx x m (bytesV t) w) (hl : l.length ≤ 1000000) (ht : t.length ≤ 1000000) :
    ∃ v' w', (Builtin.append_ #[25, tx] 25 #[v, x]).run Tryz.prog w = .ok v' w' ∧ OwnF w0 w' v' (l ++ t) := by
  subst hm
  obtain ⟨i0, hi, hz0, hz1, hz2⟩ := info_parts info_u8
  obtain ⟨g, cap, hv, h1, h2, h3, h4, h5, h6, h7, h8⟩ := h
  subst hv
  have hlen : (l ++ t).length = l.length + t.length := List.length_append
  by_cases hroom : l.length + t.length ≤ cap
  · have hr := run_append_room_src (P := Tryz.prog) w 25 tx 25 5 i0 Tryz.underlying25 hi g 0 l.length cap x t.length (bytesV t) (by rw [hz1]; exact hs) hroom
      (fun j hj => by rw [bytesV_length] at hj; rw [hz1, Nat.zero_add, Nat.mul_one]; exact h5 _ (by omega)) (fun j hj => by rw [bytesV_length] at hj; rw [hz1, Nat.zero_add, Nat.mul_one]; exact h6 _ (by omega))
    rw [hz1, Nat.zero_add, Nat.mul_one] at hr
    refine ⟨_, _, hr, g, cap, by rw [hlen], h1, by rw [size_setCells']; exact h2, by rw [hlen]; exact hroom, h4, fun j hj => ?_, fun j hj => ?_, ?_, ?_⟩
    · exact World.isSome_setCells g _ _ w _ (h5 j hj)
    · rw [World.frozen?_setCells]; exact h6 j hj
    · rw [bytesV_append]
      have a1 := World.rangeAt_setCells_apart (w := w) h7 g l.length (bytesV t) (.inr (.inl (by rw [bytesV_length]; omega)))
      have a2 := World.rangeAt_setCells_same w g l.length (bytesV t) (fun j hj => ⟨by rw [bytesV_length] at hj; exact h5 _ (by omega), by rw [bytesV_length] at hj; exact h6 _ (by omega)⟩)
      intro j u hu
      rcases Nat.lt_or_ge j (bytesV l).length with hj | hj
      · rw [List.getElem?_append_left hj] at hu
        exact a1 j u hu
      · rw [List.getElem?_append_right hj] at hu
        have := a2 _ u hu
        rw [bytesV_length] at this hj
        rwa [show l.length + (j - l.length) = 0 + j by omega] at this
    · exact fr_setCells _ _ _ h8 (fun hg => absurd hg (by omega))
  · have hold : (Builtin.firstCells i0.size l.length (.slice (some ⟨g, 0, none⟩) l.length cap)).run Tryz.prog w.drew = .ok (bytesV l).toArray w.drew := by
      rw [hz1]
      refine run_firstCells_some w.drew 1 l.length ⟨g, 0, none⟩ l.length cap (bytesV l) (by rw [bytesV_length, Nat.mul_one]) (fun j u hu => ?_)
      rw [add_off]
      exact h7 j u hu
    have hr := run_append_grow_src (P := Tryz.prog) w 25 tx 25 5 i0 (.int .u8 0) Tryz.underlying25 hi hz0 (some ⟨g, 0, none⟩) l.length cap (bytesV l) hold x t.length (bytesV t) (by rw [hz1]; exact hs) (by omega) (by omega) (growslice_fits (by omega) (by rw [hz2]; omega))
    have hge := grownCap_ge w (l.length + t.length) cap 5
    have hcm := grownCap_le_maxLen w (l.length + t.length) cap 5 (by unfold maxLen; omega)
    refine ⟨_, _, hr, ?_⟩
    have hn := ownF_new w0 w.drew (l ++ t) (grownCap w (l.length + t.length) cap 5) ((bytesV l ++ bytesV t).toArray ++ Builtin.zeroCells (Value.int .u8 0).cells (grownCap w (l.length + t.length) cap 5 - (l.length + t.length))) (0, 0) h8.drew
      (by rw [Array.size_append, List.size_toArray, size_zeroCells, List.length_append, bytesV_length, bytesV_length]; show _ + _ * 1 = _; omega) (by rw [hlen]; exact hge) hcm (.inr rfl) (fun j u hu => by
        rw [← bytesV_append]
        have hj : j < (bytesV (l ++ t)).length := (List.getElem?_eq_some_iff.1 hu).1
        rw [Array.getElem?_append_left (by simpa using hj)]
        simpa using hu)
    rw [hlen] at hn
    exact hn
theorem wpList_append_own {ops : Array Oper} {rest : List Oper} {o : Oper} {a : Act} {w : World} {Q : Exit → Act → World → Prop} (hgd : o.guard = none) (s x : Operand) (tx : TypeId)
    (ho : o.op = .call { callee := .builtin .append, args := #[s, x], argTypes := #[25, tx] }) (hty : o.type = 25)
    {w0 : World} {v : Value} {l : List UInt8} (hv : a.eval s = v) (h : OwnF w0 w v l) (t : List UInt8) (y : Value) (m : Nat) (hx : a.eval x = y) (hm : m = t.length) (hs : Src Tryz.prog 1 tx y m (bytesV t) w) (hl : l.length ≤ 1000000) (ht : t.length ≤ 1000000)
    (hn : ∀ v' w', OwnF w0 w' v' (l ++ t) → wpList Tryz.prog ops Q rest (a.put o.dst v') w') : wpList Tryz.prog ops Q (o :: rest) a w :=
  wpList_plain hgd fun K hK => by
    obtain ⟨v', w', hrun, h2⟩ := run_append_own h t y m tx hm hs hl ht
    unfold Oper.wp execOp
    simp only [ho, hty, resolve, invoke, builtin, Sem.run_bind, Sem.run_pure, Result.andThen_ok, List.map_toArray, List.map_cons, List.map_nil, hv, hx, hrun]
    exact hK _ _ (hn v' w' h2)
end Go.Proofs.YtkaeoflgnnlbeaaGreatDoor
/- What is proved: what stands ahead of an object's body, and an object as bytes, by the program and by the document. Conditions: the library's table lies as its text lays it; the body's cells are there. -/
namespace Go.Proofs.YtkaeoflgnnlbeaaGreatDoor
open Go.RowKit Go.Sort Go.Shelf
set_option linter.unusedVariables false
theorem digO_len (n : Int) (hn : n ≤ 9223372036854775807) : (digS n).length ≤ 21 := by
  unfold digS
  split
  · exact Nat.zero_le _
  · have := Lib.itoa_length_le n (by omega) hn
    rwa [Lib.itoa, if_neg (by omega)] at this
/-- What stands ahead of a body. -/
def headB (k n : Int) : List UInt8 := wordOb k ++ [32] ++ digS n ++ [0]
theorem headB_len (k n : Int) (hn : n ≤ 9223372036854775807) : (headB k n).length ≤ 40 := by
  have h1 := wordB_len k
  have h2 := digO_len n hn
  simp only [headB, List.length_append, List.length_cons, List.length_nil]
  omega
/-- An object as bytes. -/
def objB (k : Int) (l : List UInt8) : List UInt8 := if chkO k l = 0 then headB k l.length ++ l else []
set_option maxHeartbeats 3200000 in
set_option maxRecDepth 100000 in
theorem Obhead_any (k n : Int) (hn : n ≤ 9223372036854775807) (w : World) (hTab : Tab10 w) :
    Calls Tryz.prog 74 #[.int .i64 k, .int .i64 n] w fun e w' => ∃ v, e = .returned v ∧ OwnF w w' v (headB k n) := by
  have hwl := wordB_len k
  have hdl := digO_len n hn
  have HW := Lib.hid (fun w => ObWord_any k w)
  have HD := Lib.hid (VDigits_any n hn w hTab)
  have a1 : ∀ w, (Op.stringOp .add (strB (wordOb k)) (ByteArray.mk #[32])).run Tryz.prog w = .ok (.string (strB (wordOb k ++ [32]))) w := fun w => add_str (wordOb k) [32] (by simp; omega) w
  have a2 : ∀ w, (Op.stringOp .add (strB (wordOb k ++ [32])) (strB (digS n))).run Tryz.prog w = .ok (.string (strB (wordOb k ++ [32] ++ digS n))) w := fun w => add_str (wordOb k ++ [32]) (digS n) (by simp; omega) w
  have hlen : (wordOb k ++ [32] ++ digS n).length ≤ 40 := by simp only [List.length_append, List.length_cons, List.length_nil]; omega
  have HC := Lib.hid (fun w => conv_own w (wordOb k ++ [32] ++ digS n) (by omega))
  have HH : Hid (headB k n = (wordOb k ++ [32] ++ digS n) ++ [0]) := Lib.hid rfl
  obtain ⟨X, hX⟩ : ∃ X, wordOb k ++ [32] ++ digS n = X := ⟨_, rfl⟩
  rw [hX] at a2 HC HH hlen
  obtain ⟨S1, hS1⟩ : ∃ S, strB (wordOb k) = S := ⟨_, rfl⟩
  obtain ⟨S2, hS2⟩ : ∃ S, strB (wordOb k ++ [32]) = S := ⟨_, rfl⟩
  obtain ⟨S3, hS3⟩ : ∃ S, strB (digS n) = S := ⟨_, rfl⟩
  obtain ⟨S4, hS4⟩ : ∃ S, strB X = S := ⟨_, rfl⟩
  rw [hS1] at HW a1
  rw [hS2] at a1 a2
  rw [hS3] at HD a2
  rw [hS4] at a2 HC
  clear hX hS1 hS2 hS3 hS4 hwl hdl hn hTab
  go_enter Tryz.func74, Tryz.ntmps74
  go_wp2_with (first
    | (go_at_call 106; refine (HW.out _).mono ?_; rintro e w' ⟨rfl, rfl⟩)
    | (go_at_call 107; refine HD.out.mono ?_; rintro e w2 ⟨rfl, b2⟩; obtain ⟨v3, w3, hcv, o3⟩ := HC.out w2; have O3 := Lib.hid (o3.weaken (Fr.of_below (S := fun _ => False) b2)); clear o3 b2)
    | (at_builtin; refine wpList_append_own rfl (.tmp 11) (.tmp 12) 25 rfl rfl rfl (O3.out.fr ((Fr.refl (fun _ => False) w3).alloc _)) [0] _ 1 rfl rfl (src_oneT Tryz.underlying25 w3 (.int .u8 0) rfl) (by omega) (by decide) ?_
       intro v4 w4 o4
       have O4 := Lib.hid o4
       clear o4))
  go_ret
  exact ⟨_, rfl, by rw [HH.out]; exact O4.out⟩
end Go.Proofs.YtkaeoflgnnlbeaaGreatDoor
/- What is proved: what the walks of this seat need of layers below, merged out of the texts Obn (of each just what is needed). Conditions: each theorem names its own. -/
/- What is proved: an object's id, by the program and by the document. Conditions: the listed tables lie as their text lays them; the body's cells are there. -/
namespace Go.Proofs.YtkaeoflgnnlbeaaGreatDoor
open Go.RowKit Go.Sort Go.Shelf
set_option linter.unusedVariables false
theorem zeroID_build (w : World) : (Instr.build 48 #[]).run Tryz.prog w = .ok (.agg zero32) w := by kernel_rfl
theorem zero32_all : zero32.all (·.oneCell') = true := by kernel_rfl
/-- An object's id. -/
def nameV (k : Int) (l : List UInt8) : Array Value := if chkO k l = 0 then sumV (objB k l) else zero32
theorem nameV_size (k : Int) (l : List UInt8) : (nameV k l).size = 32 := by
  unfold nameV; split
  · exact sumV_size _
  · rfl
theorem nameV_one (k : Int) (l : List UInt8) : (nameV k l).all (·.oneCell') = true := by
  unfold nameV; split
  · exact sumV_one _
  · exact zero32_all
theorem chkO_len {k : Int} {l : List UInt8} (h : chkO k l = 0) : l.length ≤ 4000 := by
  by_cases hk : k < 1 ∨ 4 < k
  · rw [chkO_bad hk] at h; cases h
  · by_cases h2 : 4000 < l.length
    · rw [chkO_long hk h2] at h; cases h
    · omega
theorem objB_ok {k : Int} {l : List UInt8} (h : chkO k l = 0) : objB k l = headB k l.length ++ l := by rw [objB, if_pos h]
set_option maxHeartbeats 3200000 in
set_option maxRecDepth 100000 in
theorem ObName_any (k : Int) (A : Option Addr) (c : Nat) (l : List UInt8) (hcap : l.length ≤ c) (hm : l.length ≤ 9223372036854775807) (w : World) (h : Lies w A (bytesV l)) (hTab : Tab10 w) (hK : Tab w) :
    Calls Tryz.prog 43 #[.int .i64 k, .slice A l.length c] w fun e w' => e = .returned (.tuple #[.agg (nameV k l), .int .i64 (chkO k l)]) ∧ Fr (fun _ => False) w w' := by
  obtain ⟨w1, hw1⟩ : ∃ w1, w.alloc (.cells zero32 48) = w1 := ⟨_, rfl⟩
  have hF : Fr (fun _ => False) w w1 := by subst hw1; exact (Fr.refl _ w).alloc _
  have hZ : Whole w1 w.heap.size 48 zero32 := by subst hw1; exact Whole.new w 48 zero32
  have hL1 := h.fr hF (fun _ _ e => e)
  have HC := Lib.hid (ObCheck_any k A c l hcap w1 hL1)
  have HL := Lib.hid (fun w' (f : Fr (fun _ => False) w1 w') => hL1.fr f (fun _ _ e => e))
  have HH := Lib.hid (fun w' (f : Fr (fun _ => False) w1 w') => Obhead_any k l.length (by omega) w' ((hTab.fr hF).fr f))
  have HK := Lib.hid (fun w' (f : Fr (fun _ => False) w1 w') => (hK.fr hF (fun e => e)).fr f (fun e => e))
  have hhl := headB_len k l.length (by omega)
  have HF := Lib.hid hF
  have HZ := Lib.hid hZ
  have HBZ := Lib.hid zeroID_build
  have HN0 : Hid (chkO k l = 0 → nameV k l = sumV ([headB k l.length, l].flatten) ∧ l.length ≤ 4000) := Lib.hid (fun e => ⟨by rw [nameV, if_pos e, objB_ok e]; simp, chkO_len e⟩)
  have HN1 : Hid (chkO k l ≠ 0 → nameV k l = zero32) := Lib.hid (fun e => by rw [nameV, if_neg e])
  have hvs := nameV_size k l
  have hvo := nameV_one k l
  have HSO : Hid (l.length ≤ 4000 → ∀ (w4 : World) (A2 : Option Addr) (hp : Parts w4 A2 [headB k l.length, l]) (ht : Tab w4), Calls Tryz.prog 50 #[.slice A2 2 2] w4 fun e w' => e = .returned (.agg (sumV [headB k l.length, l].flatten)) ∧ Below w4.heap.size w4 w') := Lib.hid (fun hl4 w4 A2 hp ht => SOf_any A2 2 [headB k l.length, l] w4 hp (by show 2 ≤ 9223372036854775807; decide) ht (by simp; omega))
  obtain ⟨V, hV⟩ : ∃ V, nameV k l = V := ⟨_, rfl⟩
  rw [hV] at HN0 HN1 hvs hvo ⊢
  obtain ⟨r, hr⟩ : ∃ r, chkO k l = r := ⟨_, rfl⟩
  rw [hr] at HC HN0 HN1 ⊢
  obtain ⟨H, hH⟩ : ∃ H, headB k l.length = H := ⟨_, rfl⟩
  rw [hH] at HH hhl HN0 HSO
  obtain ⟨n, hn⟩ : ∃ n, l.length = n := ⟨_, rfl⟩
  have HNn := Lib.hid hn
  have HCP := Lib.hid hcap
  rw [hn] at HC HH HN0 HSO hm hcap ⊢
  unfold zero32 at hw1
  simp [List.replicate] at hw1
  clear hV hr hH hn h hTab hK hL1 hF hZ hcap
  by_cases hr0 : r = 0
  · subst hr0
    obtain ⟨hve, hn4⟩ := HN0.out (by first | rfl | trivial)
    have HSO := Lib.hid (HSO.out hn4)
    rw [← hve] at HSO
    have HPT : Hid (∀ (w3 : World) (A3 : Option Addr) (c3 : Nat), H.length ≤ c3 → Lies w3 A3 (bytesV H) → Fr (fun _ => False) w1 w3 → Parts (w3.alloc (.cells #[.slice A3 H.length c3, .slice A n c] 25)) (some ⟨w3.heap.size, 0, none⟩) [H, l]) := Lib.hid (fun w3 A3 c3 hc3 hl3 f3 => by
      refine .inr ⟨w3.heap.size, 0, rfl, fun i p hi => ?_⟩
      have hcell := fun j => (Whole.new w3 25 #[.slice A3 H.length c3, .slice A n c]).cell j
      have hfa : Fr (fun _ => False) w3 (w3.alloc (.cells #[.slice A3 H.length c3, .slice A n c] 25)) := (Fr.refl _ w3).alloc _
      rw [Nat.zero_add, hcell]
      match i, hi with
      | 0, hi => injection hi with hi; subst hi; exact ⟨_, _, rfl, hc3, hl3.fr hfa (fun _ _ e => e)⟩
      | 1, hi => injection hi with hi; subst hi; exact ⟨_, _, by rw [HNn.out]; rfl, HCP.out, (HL.out w3 f3).fr hfa (fun _ _ e => e)⟩)
    clear hve
    go_enter Tryz.func43, Tryz.ntmps43
    go_wp2_with (first
      | (go_at_call 73; refine HC.out.mono ?_; rintro e w2 ⟨rfl, f2⟩; have F2 := Lib.hid f2; clear f2)
      | (go_at_call 74; refine (HH.out _ F2.out).mono ?_; rintro e w3 ⟨v3, rfl, o3⟩
         obtain ⟨A3, c3, rfl, hc3, hl3⟩ := o3.slice
         have F3 := Lib.hid (F2.out.trans o3.fr2 (fun _ _ e => e))
         have L3 := Lib.hid hl3
         have C3 := Lib.hid hc3
         clear o3 hl3 hc3)
      | (go_at_call 50
         refine (HSO.out _ _ (HPT.out w3 A3 c3 C3.out L3.out F3.out) (HK.out _ (F3.out.alloc _))).mono ?_
         rintro e w5 ⟨rfl, b5⟩
         have F5 := Lib.hid ((F3.out.alloc (.cells #[.slice A3 H.length c3, .slice A n c] 25)).then_below b5)
         clear b5)
      | (refine wpList_store_at rfl 48 _ _ rfl w.heap.size 0 48 _ V rfl rfl (HZ.out.fr F5.out (fun e => e)) (by rw [hvs]; decide) (by rw [hvs]; exact size32) hvo ?_
         intro w6 hw6 hf6
         rw [laidAt_all _ _ (by rw [hvs]; rfl)] at hw6))
    refine bodyPost_ret (v := .tuple #[.agg V, .int .i64 0]) (results_cell_slot (p := 4) (u := 5) rfl _ _ _ _ _ _ rfl hw6 Tryz.underlying48 rfl (by rw [hvs]; exact size32)) rfl ?_
    exact ⟨rfl, (HF.out.trans F5.out (fun _ _ e => e)).trans hf6 (fun i hi e => by omega)⟩
  · have hrz : (r == 0) = false := by simp [hr0]
    have HV := Lib.hid (HN1.out hr0)
    go_enter Tryz.func43, Tryz.ntmps43
    go_wp2_with (first
      | (go_at_call 73; refine HC.out.mono ?_; rintro e w2 ⟨rfl, f2⟩; have F2 := Lib.hid f2; clear f2)
      | (refine wpList_build_to rfl 48 _ rfl #[] (by first | rfl | simp [Act.eval]) (.agg zero32) (HBZ.out _) ?_)
      | (refine wpList_store_at rfl 48 _ _ rfl w.heap.size 0 48 _ zero32 rfl rfl (HZ.out.fr F2.out (fun e => e)) (by decide) size32 zero32_all ?_
         intro w6 hw6 hf6
         rw [laidAt_all _ _ rfl] at hw6))
    refine bodyPost_ret (v := .tuple #[.agg zero32, .int .i64 r]) (results_cell_slot (p := 4) (u := 5) rfl _ _ _ _ _ _ rfl hw6 Tryz.underlying48 rfl size32) rfl ?_
    exact ⟨by rw [HV.out], (HF.out.trans F2.out (fun _ _ e => e)).trans hf6 (fun i hi e => by omega)⟩
end Go.Proofs.YtkaeoflgnnlbeaaGreatDoor

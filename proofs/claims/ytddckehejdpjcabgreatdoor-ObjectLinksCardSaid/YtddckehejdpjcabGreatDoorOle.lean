/- What is proved: what an object names, by the document. Conditions: the body's cells are there. -/
import Derived.Test.YtddckehejdpjcabGreatDoorOld
namespace Go.Proofs.YtddckehejdpjcabGreatDoor
open Go.RowKit Go.Sort Go.Shelf
open Ids (idC dgt big idC_size idC_get idC_one cellD zero32 size32 dgt_lt)
set_option linter.unusedVariables false

theorem idE_at {b o : Nat} {es : List Ent} {k : Nat} {x : Ent} {w w' : World} {ci : Array Value} (h : Lies w (some ⟨b, o, none⟩) (flatE es)) (hi : es[k]? = some x) (f : Fr (fun _ => False) w w') (hc : idV (lnkE x) = ci) : w'.rangeAt b (o + k * 34 + 2) ci.toList := fun j v hv => by
  have := ent_id_at x j v (by rw [hc]; exact hv)
  rw [List.getElem?_toArray] at this
  have h2 := cell_ent h hi f (2 + j) v this
  rw [← Nat.add_assoc] at h2
  exact h2

set_option maxHeartbeats 6400000 in
set_option maxRecDepth 100000 in
theorem QbLinks_bad (k : Int) (A : Option Addr) (c : Nat) (l : List UInt8) (hcap : l.length ≤ c) (h0 : chkO k l ≠ 0) (w : World) (h : Lies w A (bytesV l)) :
    Calls Tryz.prog 6 #[.int .i64 k, .slice A l.length c] w fun e w' => ∃ v, e = .returned (.tuple #[v, .int .i64 (chkO k l)]) ∧ OwnL 35 w w' v (linksO k l) := by
  have H := Lib.hid (QbCheck_any k A c l hcap w h)
  have HM := Lib.hid (links_bad h0)
  obtain ⟨r, hr⟩ : ∃ r, chkO k l = r := ⟨_, rfl⟩
  rw [hr] at H h0 ⊢
  obtain ⟨n, hn⟩ : ∃ n, l.length = n := ⟨_, rfl⟩
  rw [hn] at H ⊢
  have hrz : (r == 0) = false := by simp [h0]
  clear h hcap hr hn
  go_enter Tryz.func6, Tryz.ntmps6
  go_wp2_with (go_at_call 10; refine H.out.mono ?_; rintro e w1 ⟨rfl, f⟩; have F1 := Lib.hid f; clear f)
  go_ret2
  exact ⟨_, rfl, by rw [HM.out]; exact OwnL.nil F1.out⟩

set_option maxHeartbeats 6400000 in
set_option maxRecDepth 100000 in
theorem QbLinks_1 (A : Option Addr) (c : Nat) (l : List UInt8) (hcap : l.length ≤ c) (h0 : chkO 1 l = 0) (w : World) (h : Lies w A (bytesV l)) :
    Calls Tryz.prog 6 #[.int .i64 1, .slice A l.length c] w fun e w' => ∃ v, e = .returned (.tuple #[v, .int .i64 0]) ∧ OwnL 35 w w' v (linksO 1 l) := by
  have H := Lib.hid (QbCheck_any 1 A c l hcap w h)
  rw [h0] at H
  have HM := Lib.hid (links_1 l)
  obtain ⟨n, hn⟩ : ∃ n, l.length = n := ⟨_, rfl⟩
  rw [hn] at H ⊢
  clear h hcap hn
  go_enter Tryz.func6, Tryz.ntmps6
  go_wp2_with (go_at_call 10; refine H.out.mono ?_; rintro e w1 ⟨rfl, f⟩; have F1 := Lib.hid f; clear f)
  go_ret2
  exact ⟨_, rfl, by rw [HM.out]; exact OwnL.nil F1.out⟩

set_option maxHeartbeats 6400000 in
set_option maxRecDepth 100000 in
theorem QbLinks_4 (A : Option Addr) (c : Nat) (l : List UInt8) (hcap : l.length ≤ c) (h0 : chkO 4 l = 0) (w : World) (h : Lies w A (bytesV l)) :
    Calls Tryz.prog 6 #[.int .i64 4, .slice A l.length c] w fun e w' => ∃ v, e = .returned (.tuple #[v, .int .i64 0]) ∧ OwnL 35 w w' v (linksO 4 l) := by
  have H := Lib.hid (QbCheck_any 4 A c l hcap w h)
  rw [h0] at H
  have HM := Lib.hid (links_4 h0)
  have HQ := Lib.hid (fun w' (f : Fr (fun _ => False) w w') => QvGetMark_any A c l (by have := (chkO_small h0).2.2; omega) w' (h.fr f (fun _ _ e => e)))
  unfold MarkIs at HQ
  (
    obtain ⟨i0, hi0, hz0, hz1, hz2⟩ := info_parts info_lnkQ
    have hz3 := zeroL_cells
    obtain ⟨Z, hZ⟩ : ∃ Z, zeroL = Z := ⟨_, rfl⟩
    rw [hZ] at hz0 hz3
    clear hZ)
  obtain ⟨X, hX⟩ : ∃ X, getM l = X := ⟨_, rfl⟩
  rw [hX] at HM HQ
  obtain ⟨⟨T, kk, a, t, n'⟩, x⟩ := X
  simp only [] at HM HQ
  have hrs := markC_size T kk a t n'
  have hro := markC_one T kk a t n'
  have hrk := markC_k T kk a t n'
  have hri := markC_id T kk a t n'
  obtain ⟨R, hR⟩ : ∃ R, markC T kk a t n' = R := ⟨_, rfl⟩
  rw [hR] at hrs hro hrk hri HQ
  have HRO := Lib.hid hro
  have HRK := Lib.hid hrk
  have HRI := Lib.hid hri
  obtain ⟨y, hy⟩ : ∃ y, lnkI T kk = y := ⟨_, rfl⟩
  have HK := Lib.hid (show y.k = kk from by rw [← hy]; rfl)
  have HCI := Lib.hid (show idV y = idC (dgt T) from by rw [← hy]; exact idV_I T kk)
  have hcis := idC_size (dgt T)
  rw [hy] at HM
  obtain ⟨ci, hci⟩ : ∃ c, idC (dgt T) = c := ⟨_, rfl⟩
  rw [hci] at HCI hcis HRI
  obtain ⟨cx, hcx⟩ : ∃ c, (lnkC y).toArray = c := ⟨_, rfl⟩
  have HCX := Lib.hid hcx
  obtain ⟨n, hn⟩ : ∃ n, l.length = n := ⟨_, rfl⟩
  rw [hn] at H HQ ⊢
  clear h hcap hn hX hR hro hrk hri hy hci hcx
  go_enter Tryz.func6, Tryz.ntmps6
  go_wp2_with (first
    | (go_at_call 10; refine H.out.mono ?_; rintro e w1 ⟨rfl, f⟩; have F1 := Lib.hid f; clear f)
    | (go_at_call 13; refine (HQ.out _ F1.out).mono ?_; rintro e w2 ⟨rfl, f⟩; have F2 := Lib.hid (F1.out.trans f (fun _ _ e => e)); clear f)
    | (refine wpList_store_at rfl 54 _ _ rfl w2.heap.size 0 54 zeroMk R rfl rfl (Whole.new w2 54 zeroMk) (by rw [hrs]; decide) (by rw [hrs]; exact size36M) HRO.out ?_
       intro w3 hw3 hf3
       rw [laidAt_all _ _ (by rw [hrs]; rfl)] at hw3
       have c3 : w3.cell? ⟨w2.heap.size, 32, none⟩ = some (.int .i64 kk) := (by rw [hw3.cell]; exact HRK.out)
       have R3 := Lib.hid (show w3.rangeAt w2.heap.size 0 ci.toList from fun j v hv => by rw [Nat.zero_add, hw3.cell]; exact HRI.out j v hv)
       have F3 := Lib.hid (((Fr.refl (fun _ => False) w2).alloc (.cells zeroMk 54)).trans hf3 (fun i hi e => by omega))
       clear hw3 hf3)
    | (refine wpList_load_id rfl (.tmp 97) rfl w2.heap.size 0 rfl ci hcis R3.out ?_)
    | (
      (refine wpList_lnk rfl 35 build_lnkQ _ _ rfl y cx HCX.out ci HCI.out _ HK.out rfl rfl ?_)) | (
        (refine wpList_lnks rfl 28 35 slice_lnkQ _ rfl y cx HCX.out rfl ?_))
    | (at_builtin; refine wpList_append_row _ rfl (.tmp 96) (.tmp 102) 28 28 rfl w2.heap.size 35 i0 (.agg Z) 33 40 Tryz.underlying28 hi0 hz0 hz1 hz2 hz3 _ 0 _ rfl (((OwnL.nil F3.out).1 : w3.ownsRow w2.heap.size 35 33 (.slice none 0 0) 0 (flatL [])).alloc _) _ 1 (flatL [y]) rfl (src_lnk 28 35 Tryz.underlying28 _ y cx HCX.out) (by unfold maxLen; omega) (by omega) (by have := F3.out.size; simp; omega) ?_
       intro v2 w7 o2 g2 at2
       have N2 := Lib.hid (OwnL.grow (ks := [y]) ((OwnL.nil F3.out).fr ((Fr.refl _ w3).alloc (.cells cx 35))) rfl rfl rfl o2 g2)
       clear o2 g2 at2))
  go_ret2
  exact ⟨_, rfl, by rw [HM.out]; exact N2.out.base F2.out⟩
end Go.Proofs.YtddckehejdpjcabGreatDoor

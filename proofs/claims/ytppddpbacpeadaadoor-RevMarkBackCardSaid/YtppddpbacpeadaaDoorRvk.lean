/- What is proved: a commit as bytes, by the program. Conditions: the parents' cells are there, the library's table lies as its text lays it, nothing is too long for any machine. -/
import Derived.Test.YtppddpbacpeadaaDoorRvj
namespace Go.Proofs.YtppddpbacpeadaaDoor
open Go.RowKit Go.Sort Go.Shelf
open Ids (idC dgt big idC_size idC_get idC_one cellD zero32 size32 dgt_lt hexB)
set_option linter.unusedVariables false

def wTree : List UInt8 := [116, 114, 101, 101]
def wParent : List UInt8 := [112, 97, 114, 101, 110, 116]
def wAuthor : List UInt8 := [97, 117, 116, 104, 111, 114]
def wTime : List UInt8 := [116, 105, 109, 101]
/-- An id's digits. -/
def hexI (n : Nat) : List UInt8 := hexB (dgt n) 64
theorem hexI_len (n : Nat) : (hexI n).length = 64 := Ids.hexB_len _ _
def parB (ps : List Nat) : List UInt8 := ps.flatMap fun p => lineB wParent (hexI p)
theorem parB_snoc (ps : List Nat) (p : Nat) : parB (ps ++ [p]) = parB ps ++ lineB wParent (hexI p) := by simp [parB]
theorem parB_len (ps : List Nat) : (parB ps).length = ps.length * 72 := by
  induction ps with
  | nil => rfl
  | cons p ps ih =>
    have e : parB (p :: ps) = lineB wParent (hexI p) ++ parB ps := rfl
    rw [e, List.length_append, ih, lineB_len, hexI_len, List.length_cons]
    show 6 + 64 + 2 + _ = _
    omega
def revB (T : Nat) (ps : List Nat) (a : List UInt8) (n : Int) (t : List UInt8) : List UInt8 := lineB wTree (hexI T) ++ parB ps ++ lineB wAuthor a ++ lineB wTime (digS n) ++ ([10] ++ t)
def putR (T : Nat) (ps : List Nat) (a : List UInt8) (n : Int) (t : List UInt8) : List UInt8 := if chkE ps a n t = 0 then revB T ps a n t else []
theorem name_small {n : List UInt8} (h : nameB n = true) : n.length ≤ 32 := by
  unfold nameB at h
  simp only [Bool.and_eq_true, decide_eq_true_eq] at h
  exact h.1.1.1.1.2
theorem chkE_ok {ps : List Nat} {a : List UInt8} {n : Int} {t : List UInt8} (h : chkE ps a n t = 0) : ps.length ≤ 6 ∧ t.length ≤ 400 ∧ twN ps = false ∧ nameB a = true ∧ 0 ≤ n ∧ n ≤ 1099511627776 := by
  unfold chkE at h
  split at h
  · cases h
  · rename_i h1
    split at h
    · cases h
    · rename_i h2
      split at h
      · cases h
      · rename_i h3
        split at h
        · cases h
        · rename_i h4
          have h4 : timeB n = true := by simpa using h4
          rw [timeB, Bool.and_eq_true, decide_eq_true_eq, decide_eq_true_eq] at h4
          exact ⟨by omega, by omega, by simpa using h2, by simpa using h3, h4.1, h4.2⟩
theorem take_snocN (l : List Nat) (k : Nat) (h : k < l.length) : l.take (k + 1) = l.take k ++ [gt l k] := by
  rw [List.take_succ_eq_append_getElem h, gt, List.getD_eq_getElem?_getD, List.getElem?_eq_getElem h]; rfl

set_option maxHeartbeats 6400000 in
set_option maxRecDepth 100000 in
theorem VPut_any (T : Nat) (A : Option Addr) (c : Nat) (ps : List Nat) (a : List UInt8) (n : Int) (t : List UInt8) (hc : ps.length ≤ c) (hb : ∀ n ∈ ps, n < big) (ha : a.length ≤ 9223372036854775806) (ht : t.length ≤ 9223372036854775806) (w : World) (h1 : Lies w A (flatI ps)) (hTab : Tab10 w) :
    Calls Tryd.prog 8 #[.agg (revC T (.slice A ps.length c) a n t)] w fun e w' => ∃ v', e = .returned (.tuple #[v', .int .i64 (chkE ps a n t)]) ∧ OwnB w w' v' (putR T ps a n t) := by
  obtain ⟨w1, hw1⟩ : ∃ w1, w.alloc (.cells (revC T (.slice A ps.length c) a n t) 26) = w1 := ⟨_, rfl⟩
  have hF : Fr (fun _ => False) w w1 := by subst hw1; exact (Fr.refl _ w).alloc _
  have hS : RevAt w1 w.heap.size T (.slice A ps.length c) a n t := by subst hw1; exact RevAt.new w
  have HF := Lib.hid hF
  have HS := Lib.hid hS
  have HLI := Lib.hid (h1.fr hF (fun _ _ e => e))
  have HTb := Lib.hid (hTab.fr hF)
  have HC := Lib.hid (VCheck_any T A c ps a n t hc hb ha ht w1 (h1.fr hF (fun _ _ e => e)))
  have HP1 : Hid (chkE ps a n t ≠ 0 → putR T ps a n t = []) := Lib.hid (fun e => by rw [putR, if_neg e])
  have HP2 : Hid (chkE ps a n t = 0 → putR T ps a n t = revB T ps a n t) := Lib.hid (fun e => by rw [putR, if_pos e])
  have HOK := Lib.hid (fun e => chkE_ok (ps := ps) (a := a) (n := n) (t := t) e)
  have HCS := Lib.hid (revC_size T (.slice A ps.length c) a n t)
  have HCV : Hid (∀ w', Fr (fun _ => False) w1 w' → w'.cell? ⟨w.heap.size, 32, none⟩ = some (.slice A ps.length c)) := Lib.hid (fun w' f => (hS.fr f).cv)
  have HCA : Hid (∀ w', Fr (fun _ => False) w1 w' → w'.cell? ⟨w.heap.size, 33, none⟩ = some (.string (strB a))) := Lib.hid (fun w' f => (hS.fr f).ca)
  have HCN : Hid (∀ w', Fr (fun _ => False) w1 w' → w'.cell? ⟨w.heap.size, 34, none⟩ = some (.int .i64 n)) := Lib.hid (fun w' f => (hS.fr f).cn)
  have HCT : Hid (∀ w', Fr (fun _ => False) w1 w' → w'.cell? ⟨w.heap.size, 35, none⟩ = some (.string (strB t))) := Lib.hid (fun w' f => (hS.fr f).ct)
  have HID : Hid (∀ w', Fr (fun _ => False) w1 w' → w'.rangeAt w.heap.size 0 (idC (dgt T)).toList) := Lib.hid (fun w' f => (hS.fr f).id)
  obtain ⟨r, hr⟩ : ∃ r, chkE ps a n t = r := ⟨_, rfl⟩
  rw [hr] at HC HP1 HP2 HOK ⊢
  obtain ⟨cs, hcs⟩ : ∃ cs, revC T (.slice A ps.length c) a n t = cs := ⟨_, rfl⟩
  rw [hcs] at hw1 HC HCS ⊢
  have HW : Hid (∀ w', Fr (fun _ => False) w1 w' → Whole w' w.heap.size 26 cs) := Lib.hid (fun w' f => by rw [← hcs]; exact hS.fr f)
  obtain ⟨L, hL⟩ : ∃ L, ps.length = L := ⟨_, rfl⟩
  have HLn := Lib.hid hL
  have HB := Lib.hid hb
  rw [hL] at HCV HOK
  clear hr hcs hS hF HS h1 hb hc ha ht hTab hL
  have HX1 := Lib.hid (fun (w : World) => Ids.OHex_any (dgt T) (dgt_lt T) w)
  have HXS : Ids.hexS (dgt T) = strB (hexI T) := rfl
  rw [HXS] at HX1
  have HHL := hexI_len T
  clear HXS
  by_cases hr0 : r = 0
  · subst hr0
    obtain ⟨hp6, ht4, _, hna, hn0, hn1⟩ := HOK.out rfl
    have ha32 := name_small hna
    have HLT := Lib.hid (fun (w2 : World) (f : Fr (fun _ => False) w1 w2) => Vlay_any w1 w2 (.slice none 0 0) [] wTree (hexI T) (OwnB.nil f) (by decide) (by decide) (by rw [HHL]; decide))
    have HLA := Lib.hid (fun (w2 : World) (v : Value) (l : List UInt8) (hl : l.length ≤ 1000) (h : OwnB w1 w2 v l) => Vlay_any w1 w2 v l wAuthor a h (by omega) (by decide) (by omega))
    have HLE := Lib.hid (fun (w2 : World) (v : Value) (l : List UInt8) (hl : l.length ≤ 1000) (h : OwnB w1 w2 v l) (hT : Tab10 w2) => VlayEnd_any w1 w2 v l t n h hT (by omega) (by omega) (by omega))
    obtain ⟨ct, hct⟩ : ∃ c, idC (dgt T) = c := ⟨_, rfl⟩
    have hcts : ct.size = 32 := by rw [← hct]; exact idC_size _
    rw [hct] at HID HX1
    obtain ⟨Sx, hSx⟩ : ∃ S, strB (hexI T) = S := ⟨_, rfl⟩
    rw [hSx] at HX1 HLT
    obtain ⟨Sa, hSa⟩ : ∃ S, strB a = S := ⟨_, rfl⟩
    rw [hSa] at HCA HLA
    obtain ⟨St, hSt⟩ : ∃ S, strB t = S := ⟨_, rfl⟩
    rw [hSt] at HCT HLE
    obtain ⟨W1, hW1⟩ : ∃ S, strB wTree = S := ⟨_, rfl⟩
    obtain ⟨W2, hW2⟩ : ∃ S, strB wParent = S := ⟨_, rfl⟩
    obtain ⟨W3, hW3⟩ : ∃ S, strB wAuthor = S := ⟨_, rfl⟩
    have e1 : ByteArray.mk #[116, 114, 101, 101] = W1 := hW1
    have e2 : ByteArray.mk #[112, 97, 114, 101, 110, 116] = W2 := hW2
    have e3 : ByteArray.mk #[97, 117, 116, 104, 111, 114] = W3 := hW3
    rw [hW1] at HLT
    rw [hW3] at HLA
    have HLP := Lib.hid (fun (w2 : World) (v : Value) (l : List UInt8) (p : Nat) (hl : l.length ≤ 1000) (h : OwnB w1 w2 v l) => Vlay_any w1 w2 v l wParent (hexI p) h (by omega) (by decide) (by rw [hexI_len]; decide))
    rw [hW2] at HLP
    have HXP := Lib.hid (fun (p : Nat) (w : World) => Ids.OHex_any (dgt p) (dgt_lt p) w)
    have HBL := Lib.hid (fun (k : Nat) => parB_len (ps.take k))
    have HHT : Hid ((lineB wTree (hexI T)).length = 70) := Lib.hid (by rw [lineB_len, HHL]; rfl)
    have HHA : Hid ((lineB wAuthor a).length ≤ 40) := Lib.hid (by rw [lineB_len]; show 6 + _ + 2 ≤ 40; omega)
    clear hct hSx hSa hSt hW1 hW2 hW3 HHL hna ha32
    go_enter Tryd.func8, Tryd.ntmps8
    go_wp2_with (first
      | (refine wpList_load_row rfl 26 _ rfl _ rfl 26 _ _ _ (HW.out _ (Fr.refl _ _)) Tryd.underlying26 rfl (by rw [HCS.out]; exact size36) ?_)
      | (go_at_call 13; refine HC.out.mono ?_; rintro e w2 ⟨rfl, bb⟩; have F2 := Lib.hid (Fr.of_below (S := fun _ => False) bb); clear bb)
      | (refine wpList_load_mid rfl 23 _ rfl w.heap.size 0 rfl _ _ (HID.out _ F2.out) Tryd.underlying23 rfl (by rw [Array.length_toList, hcts]; exact size32) ?_)
      | (go_at_call 29; refine (HX1.out _).mono ?_; rintro e w3 ⟨rfl, b3⟩; have F3 := Lib.hid (F2.out.then_below b3); clear b3)
      | (go_at_call 28; refine (HLT.out _ F3.out).mono ?_; rintro e w4 ⟨v4, rfl, o4⟩; have O4 := Lib.hid o4; have hv := HCV.out _ o4.2; clear o4))
    have HN0 : Hid (lineB wTree (hexI T) ++ parB (ps.take 0) = [] ++ lineB wTree (hexI T)) := Lib.hid (by simp [parB])
    go_loopg [5, 20] L (fun kx s5 s20 wr => ∃ k : Nat, s20 = .int .i64 k ∧ k ≤ L ∧ L - k ≤ kx ∧ OwnB w1 wr s5 (lineB wTree (hexI T) ++ parB (ps.take k)))
    case atStart => exact ⟨0, rfl, by omega, by omega, by rw [HN0.out]; exact O4.out⟩
    case round =>
      obtain ⟨k, rfl, hk, hkx, ho⟩ := hrel
      obtain ⟨wo, rfl⟩ : ∃ wo, wo = wr := ⟨wr, rfl⟩
      have wk1 := wrap_k1 k (by omega)
      have hlen : (lineB wTree (hexI T) ++ parB (ps.take k)).length ≤ 502 := by rw [List.length_append, HHT.out, HBL.out, List.length_take]; omega
      by_cases hlt : k < L
      · have hltz : (k : Int) < L := by omega
        obtain ⟨b, o, hB⟩ := HLI.out.some_of (by rw [HLn.out]; omega)
        subst hB
        have hka := gt_some ps k (by rw [HLn.out]; exact hlt)
        have HNX := Lib.hid (show lineB wTree (hexI T) ++ parB (ps.take (k + 1)) = (lineB wTree (hexI T) ++ parB (ps.take k)) ++ lineB wParent (hexI (gt ps k)) by rw [take_snocN ps k (by rw [HLn.out]; exact hlt), parB_snoc, List.append_assoc])
        obtain ⟨xs, hxe⟩ : ∃ xs, lineB wTree (hexI T) ++ parB (ps.take k) = xs := ⟨_, rfl⟩
        rw [hxe] at ho hlen HNX
        have hrg : Hid (wo.rangeAt b (o + k * 32) (idC (dgt (gt ps k))).toList) := Lib.hid (range_at HLI.out hka ho.2)
        have hXp := Lib.hid (HXP.out (gt ps k))
        have hXs : Ids.hexS (dgt (gt ps k)) = strB (hexI (gt ps k)) := rfl
        rw [hXs] at hXp
        have hLp := Lib.hid (fun (w2 : World) (h : OwnB w1 w2 u5 xs) => HLP.out w2 u5 xs (gt ps k) (by omega) h)
        have hcs := idC_size (dgt (gt ps k))
        have hco := idC_one (dgt (gt ps k))
        obtain ⟨cx, hcx⟩ : ∃ c, idC (dgt (gt ps k)) = c := ⟨_, rfl⟩
        rw [hcx] at hrg hXp hcs hco
        obtain ⟨S, hS⟩ : ∃ S, strB (hexI (gt ps k)) = S := ⟨_, rfl⟩
        rw [hS] at hXp hLp
        have HO := Lib.hid ho
        clear hka hcx hXs hS ho hxe
        go_wp2_with (first
          | (refine wpList_load_mid rfl 23 _ rfl b (o + k * 32) rfl _ _ hrg.out Tryd.underlying23 rfl (by rw [Array.length_toList, hcs]; exact size32) ?_)
          | (refine wpList_store_at rfl 23 _ _ rfl wo.heap.size 0 23 _ cx rfl rfl (Whole.new wo 23 zero32) (by rw [hcs]; decide) (by rw [hcs]; exact size32) hco ?_
             intro w5 hw5 hf5
             rw [laidAt_all _ _ (by rw [hcs]; rfl)] at hw5
             have F5 : Hid (Fr (fun _ => False) wo w5) := Lib.hid ((((Fr.refl (fun _ => False) wo).alloc _).trans hf5 (fun i hi e => by omega)))
             clear hf5)
          | (refine wpList_load_row rfl 23 _ rfl _ rfl 23 _ _ _ hw5 Tryd.underlying23 rfl (by rw [hcs]; exact size32) ?_)
          | (go_at_call 29; refine (hXp.out _).mono ?_; rintro e w6 ⟨rfl, b6⟩; have F6 := Lib.hid (F5.out.then_below b6); clear b6)
          | (go_at_call 28; refine (hLp.out _ (HO.out.fr F6.out)).mono ?_; rintro e w7 ⟨v7, rfl, o7⟩; have O7 := Lib.hid o7; clear o7))
        go_roundg (L - (k + 1))
        case measure => omega
        case rel => exact ⟨k + 1, by go_num, by omega, Nat.le_refl _, by rw [HNX.out]; exact O7.out⟩
      · obtain rfl : k = L := by omega
        have hall : ps.take k = ps := List.take_of_length_le (by rw [HLn.out]; exact Nat.le_refl _)
        rw [hall] at ho hlen
        have hLa := Lib.hid (HLA.out wo u5 _ (by omega) ho)
        have hca := HCA.out _ ho.2
        have hlen2 : ((lineB wTree (hexI T) ++ parB ps) ++ lineB wAuthor a).length ≤ 1000 := by rw [List.length_append]; have := HHA.out; omega
        have HPU : Hid (putR T ps a n t = ((lineB wTree (hexI T) ++ parB ps) ++ lineB wAuthor a) ++ lineB [116, 105, 109, 101] (digS n) ++ ([10] ++ t)) := Lib.hid (HP2.out (by first | rfl | trivial))
        obtain ⟨xs, hxe⟩ : ∃ xs, (lineB wTree (hexI T) ++ parB ps) ++ lineB wAuthor a = xs := ⟨_, rfl⟩
        rw [hxe] at hLa hlen2 HPU
        have hltz : ¬ ((k : Int) < (k : Int)) := by omega
        clear ho hall hxe hlen
        go_wp2_with (first
          | (go_at_call 28; refine hLa.out.mono ?_; rintro e w7 ⟨v7, rfl, o7⟩; have hcn := HCN.out _ o7.2; have hctx := HCT.out _ o7.2; have O7 := Lib.hid o7; clear o7)
          | (go_at_call 30; refine (HLE.out w7 v7 xs hlen2 O7.out (HTb.out.fr O7.out.2)).mono ?_; rintro e w8 ⟨v8, rfl, o8⟩; have O8 := Lib.hid o8; clear o8))
        go_ret2
        exact ⟨_, rfl, by rw [HPU.out]; exact O8.out.weaken HF.out⟩
  · have hrz : (r == 0) = false := by simp [hr0]
    go_enter Tryd.func8, Tryd.ntmps8
    go_wp2_with (first
      | (refine wpList_load_row rfl 26 _ rfl _ rfl 26 _ _ _ (HW.out _ (Fr.refl _ _)) Tryd.underlying26 rfl (by rw [HCS.out]; exact size36) ?_)
      | (go_at_call 13; refine HC.out.mono ?_; rintro e w2 ⟨rfl, bb⟩))
    go_ret2
    exact ⟨_, rfl, by rw [HP1.out hr0]; exact OwnB.nil (HF.out.then_below bb)⟩
end Go.Proofs.YtppddpbacpeadaaDoor

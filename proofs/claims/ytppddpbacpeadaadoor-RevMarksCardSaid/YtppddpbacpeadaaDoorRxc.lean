/- What is proved: a tag as bytes, by the program. Conditions: the library's table lies as its text lays it, nothing is too long for any machine. -/
import Derived.Test.YtppddpbacpeadaaDoorRxa
import Derived.Test.YtppddpbacpeadaaDoorRvl
namespace Go.Proofs.YtppddpbacpeadaaDoor
open Go.RowKit Go.Sort Go.Shelf
open Ids (idC dgt big idC_size idC_get idC_one cellD zero32 size32 dgt_lt hexB)
set_option linter.unusedVariables false

def wObject : List UInt8 := [111, 98, 106, 101, 99, 116]
def wKind : List UInt8 := [107, 105, 110, 100]
def wName : List UInt8 := [110, 97, 109, 101]
def markB (T : Nat) (k : Int) (a : List UInt8) (n : Int) (t : List UInt8) : List UInt8 := lineB wObject (hexI T) ++ lineB wKind (digS k) ++ lineB wName a ++ lineB wTime (digS n) ++ ([10] ++ t)
def putM (T : Nat) (k : Int) (a : List UInt8) (n : Int) (t : List UInt8) : List UInt8 := if mchkE k a n t = 0 then markB T k a n t else []
theorem mchkE_ok {k : Int} {a : List UInt8} {n : Int} {t : List UInt8} (h : mchkE k a n t = 0) : t.length ≤ 400 ∧ 1 ≤ k ∧ k ≤ 4 ∧ nameB a = true ∧ 0 ≤ n ∧ n ≤ 1099511627776 := by
  unfold mchkE at h
  split at h
  · cases h
  · rename_i h1
    split at h
    · cases h
    · rename_i h2
      split at h
      · cases h
      · rename_i h3
        split at h
        · cases h
        · rename_i h4
          have h4 : timeB n = true := by simpa using h4
          rw [timeB, Bool.and_eq_true, decide_eq_true_eq, decide_eq_true_eq] at h4
          exact ⟨by omega, by omega, by omega, by simpa using h3, h4.1, h4.2⟩

set_option maxHeartbeats 6400000 in
set_option maxRecDepth 100000 in
theorem VPutMark_any (T : Nat) (k : Int) (a : List UInt8) (n : Int) (t : List UInt8) (ha : a.length ≤ 9223372036854775806) (ht : t.length ≤ 9223372036854775806) (w : World) (hTab : Tab10 w) :
    Calls Tryd.prog 22 #[.agg (markC T k a n t)] w fun e w' => ∃ v', e = .returned (.tuple #[v', .int .i64 (mchkE k a n t)]) ∧ OwnB w w' v' (putM T k a n t) := by
  obtain ⟨w1, hw1⟩ : ∃ w1, w.alloc (.cells (markC T k a n t) 51) = w1 := ⟨_, rfl⟩
  have hF : Fr (fun _ => False) w w1 := by subst hw1; exact (Fr.refl _ w).alloc _
  have hS : MarkAt w1 w.heap.size T k a n t := by subst hw1; exact MarkAt.new w
  have HF := Lib.hid hF
  have HTb := Lib.hid (hTab.fr hF)
  have HC := Lib.hid (VCheckMark_any T k a n t ha ht w1)
  have HP1 : Hid (mchkE k a n t ≠ 0 → putM T k a n t = []) := Lib.hid (fun e => by rw [putM, if_neg e])
  have HP2 : Hid (mchkE k a n t = 0 → putM T k a n t = markB T k a n t) := Lib.hid (fun e => by rw [putM, if_pos e])
  have HOK := Lib.hid (fun e => mchkE_ok (k := k) (a := a) (n := n) (t := t) e)
  have HCS := Lib.hid (markC_size T k a n t)
  have HCK : Hid (∀ w', Fr (fun _ => False) w1 w' → w'.cell? ⟨w.heap.size, 32, none⟩ = some (.int .i64 k)) := Lib.hid (fun w' f => (hS.fr f).ck)
  have HCA : Hid (∀ w', Fr (fun _ => False) w1 w' → w'.cell? ⟨w.heap.size, 33, none⟩ = some (.string (strB a))) := Lib.hid (fun w' f => (hS.fr f).ca)
  have HCN : Hid (∀ w', Fr (fun _ => False) w1 w' → w'.cell? ⟨w.heap.size, 34, none⟩ = some (.int .i64 n)) := Lib.hid (fun w' f => (hS.fr f).cn)
  have HCT : Hid (∀ w', Fr (fun _ => False) w1 w' → w'.cell? ⟨w.heap.size, 35, none⟩ = some (.string (strB t))) := Lib.hid (fun w' f => (hS.fr f).ct)
  have HID : Hid (∀ w', Fr (fun _ => False) w1 w' → w'.rangeAt w.heap.size 0 (idC (dgt T)).toList) := Lib.hid (fun w' f => (hS.fr f).id)
  obtain ⟨r, hr⟩ : ∃ r, mchkE k a n t = r := ⟨_, rfl⟩
  rw [hr] at HC HP1 HP2 HOK ⊢
  obtain ⟨cs, hcs⟩ : ∃ cs, markC T k a n t = cs := ⟨_, rfl⟩
  rw [hcs] at hw1 HC HCS ⊢
  have HW : Hid (∀ w', Fr (fun _ => False) w1 w' → Whole w' w.heap.size 51 cs) := Lib.hid (fun w' f => by rw [← hcs]; exact hS.fr f)
  clear hr hcs hS hF ha ht hTab
  have HX1 := Lib.hid (fun (w : World) => Ids.OHex_any (dgt T) (dgt_lt T) w)
  have HXS : Ids.hexS (dgt T) = strB (hexI T) := rfl
  rw [HXS] at HX1
  have HHL := hexI_len T
  clear HXS
  by_cases hr0 : r = 0
  · subst hr0
    obtain ⟨ht4, hk1, hk4, hna, hn0, hn1⟩ := HOK.out rfl
    have ha32 := name_small hna
    have hdk := digS_len k (by omega)
    have HLT := Lib.hid (fun (w2 : World) (f : Fr (fun _ => False) w1 w2) => Vlay_any w1 w2 (.slice none 0 0) [] wObject (hexI T) (OwnB.nil f) (by decide) (by decide) (by rw [HHL]; decide))
    rw [List.nil_append] at HLT
    have HDG := Lib.hid (fun (w2 : World) (f : Fr (fun _ => False) w1 w2) => VDigits_any k (by omega) w2 (HTb.out.fr f))
    have hz1 : (lineB wObject (hexI T)).length = 72 := by rw [lineB_len, HHL]; rfl
    have hz2 : (lineB wObject (hexI T) ++ lineB wKind (digS k)).length ≤ 200 := by rw [List.length_append, hz1, lineB_len]; show 72 + (4 + _ + 2) ≤ 200; omega
    have hz3 : ((lineB wObject (hexI T) ++ lineB wKind (digS k)) ++ lineB wName a).length ≤ 1000 := by rw [List.length_append, lineB_len]; show _ + (4 + _ + 2) ≤ 1000; omega
    have HLK := Lib.hid (fun (w2 : World) (v : Value) (h : OwnB w1 w2 v (lineB wObject (hexI T))) => Vlay_any w1 w2 v _ wKind (digS k) h (by omega) (by decide) (by omega))
    have HPU : Hid (putM T k a n t = ((lineB wObject (hexI T) ++ lineB wKind (digS k)) ++ lineB wName a) ++ lineB [116, 105, 109, 101] (digS n) ++ ([10] ++ t)) := Lib.hid (HP2.out (by first | rfl | trivial))
    obtain ⟨x1, hx1⟩ : ∃ x, lineB wObject (hexI T) = x := ⟨_, rfl⟩
    rw [hx1] at HLT HLK hz1 hz2 hz3 HPU
    obtain ⟨x2, hx2⟩ : ∃ x, x1 ++ lineB wKind (digS k) = x := ⟨_, rfl⟩
    rw [hx2] at HLK hz2 hz3 HPU
    have HLA := Lib.hid (fun (w2 : World) (v : Value) (h : OwnB w1 w2 v x2) => Vlay_any w1 w2 v x2 wName a h (by omega) (by decide) (by omega))
    obtain ⟨x3, hx3⟩ : ∃ x, x2 ++ lineB wName a = x := ⟨_, rfl⟩
    rw [hx3] at HLA hz3 HPU
    have HLE := Lib.hid (fun (w2 : World) (v : Value) (h : OwnB w1 w2 v x3) (hT : Tab10 w2) => VlayEnd_any w1 w2 v x3 t n h hT (by omega) (by omega) (by omega))
    obtain ⟨ct, hct⟩ : ∃ c, idC (dgt T) = c := ⟨_, rfl⟩
    have hcts : ct.size = 32 := by rw [← hct]; exact idC_size _
    rw [hct] at HID HX1
    obtain ⟨Sx, hSx⟩ : ∃ S, strB (hexI T) = S := ⟨_, rfl⟩
    rw [hSx] at HX1 HLT
    obtain ⟨Sd, hSd⟩ : ∃ S, strB (digS k) = S := ⟨_, rfl⟩
    rw [hSd] at HDG HLK
    obtain ⟨Sa, hSa⟩ : ∃ S, strB a = S := ⟨_, rfl⟩
    rw [hSa] at HCA HLA
    obtain ⟨St, hSt⟩ : ∃ S, strB t = S := ⟨_, rfl⟩
    rw [hSt] at HCT HLE
    obtain ⟨W1, hW1⟩ : ∃ S, strB wObject = S := ⟨_, rfl⟩
    obtain ⟨W2, hW2⟩ : ∃ S, strB wKind = S := ⟨_, rfl⟩
    obtain ⟨W3, hW3⟩ : ∃ S, strB wName = S := ⟨_, rfl⟩
    have e1 : ByteArray.mk #[111, 98, 106, 101, 99, 116] = W1 := hW1
    have e2 : ByteArray.mk #[107, 105, 110, 100] = W2 := hW2
    have e3 : ByteArray.mk #[110, 97, 109, 101] = W3 := hW3
    rw [hW1] at HLT
    rw [hW2] at HLK
    rw [hW3] at HLA
    clear hct hSx hSa hSt hSd hW1 hW2 hW3 HHL hna ha32 hx1 hx2 hx3 hz1 hz2 hz3 hdk ht4 hk1 hk4 hn0 hn1
    go_enter Tryd.func22, Tryd.ntmps22
    go_wp2_with (first
      | (go_at_call 30; refine (HLE.out w8 v8 O8.out (HTb.out.fr O8.out.2)).mono ?_; rintro e w9 ⟨v9, rfl, o9⟩; have O9 := Lib.hid o9; clear o9)
      | (have _ := O6; go_at_call 28; refine (HLA.out _ _ O6.out).mono ?_; rintro e w8 ⟨v8, rfl, o8⟩; have hcn := HCN.out _ o8.2; have hctx := HCT.out _ o8.2; have O8 := Lib.hid o8; clear o8)
      | (have _ := O5; go_at_call 28; refine (HLK.out _ _ O5.out).mono ?_; rintro e w6 ⟨v6, rfl, o6⟩; have hca := HCA.out _ o6.2; have O6 := Lib.hid o6; clear o6)
      | (go_at_call 15; refine (HDG.out _ O4.out.2).mono ?_; rintro e w5 ⟨rfl, b5⟩; have O5 := Lib.hid (O4.out.fr (Fr.of_below b5)); clear b5)
      | (go_at_call 28; refine (HLT.out _ F3.out).mono ?_; rintro e w4 ⟨v4, rfl, o4⟩; have hck := HCK.out _ o4.2; have O4 := Lib.hid o4; clear o4)
      | (refine wpList_load_row rfl 51 _ rfl _ rfl 51 _ _ _ (HW.out _ (Fr.refl _ _)) Tryd.underlying51 rfl (by rw [HCS.out]; exact size36m) ?_)
      | (go_at_call 26; refine HC.out.mono ?_; rintro e w2 ⟨rfl, bb⟩; have F2 := Lib.hid (Fr.of_below (S := fun _ => False) bb); clear bb)
      | (refine wpList_load_mid rfl 23 _ rfl w.heap.size 0 rfl _ _ (HID.out _ F2.out) Tryd.underlying23 rfl (by rw [Array.length_toList, hcts]; exact size32) ?_)
      | (go_at_call 29; refine (HX1.out _).mono ?_; rintro e w3 ⟨rfl, b3⟩; have F3 := Lib.hid (F2.out.then_below b3); clear b3))
    go_ret2
    exact ⟨_, rfl, by rw [HPU.out]; exact O9.out.weaken HF.out⟩
  · have hrz : (r == 0) = false := by simp [hr0]
    go_enter Tryd.func22, Tryd.ntmps22
    go_wp2_with (first
      | (refine wpList_load_row rfl 51 _ rfl _ rfl 51 _ _ _ (HW.out _ (Fr.refl _ _)) Tryd.underlying51 rfl (by rw [HCS.out]; exact size36m) ?_)
      | (go_at_call 26; refine HC.out.mono ?_; rintro e w2 ⟨rfl, bb⟩))
    go_ret2
    exact ⟨_, rfl, by rw [HP1.out hr0]; exact OwnB.nil (HF.out.then_below bb)⟩
end Go.Proofs.YtppddpbacpeadaaDoor

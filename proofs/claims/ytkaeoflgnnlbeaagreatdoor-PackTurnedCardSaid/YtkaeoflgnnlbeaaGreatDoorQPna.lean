/- What is proved: texts that stand one behind the other: Pna Pnb. Conditions: each theorem names its own. -/
import Derived.Test.YtkaeoflgnnlbeaaGreatDoorQBda
import Derived.Test.YtkaeoflgnnlbeaaGreatDoorBq
import Derived.Test.YtkaeoflgnnlbeaaGreatDoorQPwe
import Derived.Test.YtkaeoflgnnlbeaaGreatDoorQPwg
import Derived.Test.YtkaeoflgnnlbeaaGreatDoorQPrm
import Derived.Lib.SlBytesConst
/- What is proved: the name of a blob, by the program; what a sum tells, as bytes. Conditions: the tables lie as their texts lay them; the body's cells are there, not too many. -/
namespace Go.Proofs.YtkaeoflgnnlbeaaGreatDoor
open Go.RowKit
set_option linter.unusedVariables false

/-- A sum, as bytes. -/
def sumL (l : List UInt8) : List UInt8 := (List.range 32).map fun k => toB (idN (stOf (l ++ padB l.length)) k)
theorem sumL_len (l : List UInt8) : (sumL l).length = 32 := by simp [sumL]
theorem idV_sumL (l : List UInt8) : idV (sumL l) = sumV l := by
  unfold idV sumV idC bytesV sumL
  congr 1
  rw [List.map_map, Nat.sub_self, List.replicate_zero, List.append_nil]
  refine List.map_congr_left (fun k _ => ?_)
  show byteV (toB _) = _
  rw [byteV_toB] <;> · unfold idN; omega
theorem so_says (w0 : World) (ht : Tab w0) : SoSays sumL w0 := by
  intro A l w f hp hl
  refine (SOf_any A 1 [l] w hp (by show 1 ≤ 9223372036854775807; decide) (ht.fr f (fun e => e)) (by simp; omega)).mono ?_
  rintro e w' ⟨rfl, b⟩
  exact ⟨by rw [idV_sumL]; simp, Fr.of_below b⟩
/-- The name of a blob. -/
def nmB (k : Int) (b : List UInt8) : List UInt8 × Int := (sumL (headB k b.length ++ b), 0)

set_option maxHeartbeats 1600000 in
set_option maxRecDepth 100000 in
theorem Obread_blob (A : Option Addr) (n c : Nat) (hn : n ≤ 4000) (w : World) :
    Calls Tryz.prog 105 #[.int .i64 1, .slice A n c] w fun e w' => e = .returned (.tuple #[.nilIface, .int .i64 0]) ∧ Fr (fun _ => False) w w' := by
  have HW := Lib.hid (fun w => ObWord_any 1 w)
  have hwn : ¬ (strB (wordOb 1)).toList = [] ∧ (strB (wordOb 1)).toList.isEmpty = false := by
    rw [strB_list]; decide
  obtain ⟨W, hW⟩ : ∃ W, strB (wordOb 1) = W := ⟨_, rfl⟩
  rw [hW] at HW hwn
  obtain ⟨hw1, hw2⟩ := hwn
  clear hW
  have hlt : ¬ (4000 : Int) < (n : Int) := by omega
  go_enter Tryz.func105, Tryz.ntmps105
  go_wp2_with (go_at_call 106; refine (HW.out _).mono ?_; rintro e w' ⟨rfl, rfl⟩)
  go_ret2
  exact ⟨rfl, Fr.refl _ _⟩
set_option maxHeartbeats 1600000 in
set_option maxRecDepth 100000 in
theorem ObCheck_blob (A : Option Addr) (n c : Nat) (hn : n ≤ 4000) (w : World) :
    Calls Tryz.prog 73 #[.int .i64 1, .slice A n c] w fun e w' => e = .returned (.int .i64 0) ∧ Fr (fun _ => False) w w' := by
  have H := Lib.hid (Obread_blob A n c hn w)
  clear hn
  go_enter Tryz.func73, Tryz.ntmps73
  go_wp2_with (go_at_call 105; refine H.out.mono ?_; rintro e w' ⟨rfl, f⟩; have F2 := Lib.hid f; clear f)
  go_ret
  exact ⟨rfl, F2.out⟩

set_option maxHeartbeats 3200000 in
set_option maxRecDepth 100000 in
theorem nm_blob (w0 : World) (hTab : Tab10 w0) (hK : Tab w0) (l : List UInt8) (h4 : l.length ≤ 4000) : NmSays nmB w0 1 l := by
  intro A c w f0 hcap hcm h
  obtain ⟨w1, hw1⟩ : ∃ w1, w.alloc (.cells zero32 48) = w1 := ⟨_, rfl⟩
  have hF : Fr (fun _ => False) w w1 := by subst hw1; exact (Fr.refl _ w).alloc _
  have hZ : Whole w1 w.heap.size 48 zero32 := by subst hw1; exact Whole.new w 48 zero32
  have hL1 := h.fr hF (fun _ _ e => e)
  have f01 := f0.trans hF (fun _ _ e => e)
  have HL := Lib.hid (fun w' (f : Fr (fun _ => False) w1 w') => hL1.fr f (fun _ _ e => e))
  have HH := Lib.hid (fun w' (f : Fr (fun _ => False) w1 w') => Obhead_any 1 l.length (by omega) w' ((hTab.fr f01).fr f))
  have HK := Lib.hid (fun w' (f : Fr (fun _ => False) w1 w') => (hK.fr f01 (fun e => e)).fr f (fun e => e))
  have hhl := headB_len 1 l.length (by omega)
  have HF := Lib.hid hF
  have HZ := Lib.hid hZ
  have HN0 : Hid (idV (nmB 1 l).1 = sumV [headB 1 l.length, l].flatten) := Lib.hid (by rw [nmB, idV_sumL]; simp)
  have hvs : (idV (nmB 1 l).1).size = 32 := by rw [HN0.out]; exact sumV_size _
  have hvo : (idV (nmB 1 l).1).all (·.oneCell') = true := by rw [HN0.out]; exact sumV_one _
  have he : (nmB 1 l).2 = 0 := rfl
  rw [he]
  have HSO : Hid (∀ (w4 : World) (A2 : Option Addr) (hp : Parts w4 A2 [headB 1 l.length, l]) (ht : Tab w4), Calls Tryz.prog 50 #[.slice A2 2 2] w4 fun e w' => e = .returned (.agg (sumV [headB 1 l.length, l].flatten)) ∧ Below w4.heap.size w4 w') := Lib.hid (fun w4 A2 hp ht => SOf_any A2 2 [headB 1 l.length, l] w4 hp (by show 2 ≤ 9223372036854775807; decide) ht (by simp; omega))
  obtain ⟨V, hV⟩ : ∃ V, idV (nmB 1 l).1 = V := ⟨_, rfl⟩
  rw [hV] at HN0 hvs hvo ⊢
  rw [← HN0.out] at HSO
  have HC := Lib.hid (ObCheck_blob A l.length c h4 w1)
  obtain ⟨H, hH⟩ : ∃ H, headB 1 l.length = H := ⟨_, rfl⟩
  rw [hH] at HH hhl HSO
  obtain ⟨n, hn⟩ : ∃ n, l.length = n := ⟨_, rfl⟩
  have HNn := Lib.hid hn
  have HCP := Lib.hid hcap
  rw [hn] at HC HH h4 hcap ⊢
  unfold zero32 at hw1
  simp [List.replicate] at hw1
  have HPT : Hid (∀ (w3 : World) (A3 : Option Addr) (c3 : Nat), H.length ≤ c3 → Lies w3 A3 (bytesV H) → Fr (fun _ => False) w1 w3 → Parts (w3.alloc (.cells #[.slice A3 H.length c3, .slice A n c] 25)) (some ⟨w3.heap.size, 0, none⟩) [H, l]) := Lib.hid (fun w3 A3 c3 hc3 hl3 f3 => by
    refine .inr ⟨w3.heap.size, 0, rfl, fun i p hi => ?_⟩
    have hcell := fun j => (Whole.new w3 25 #[.slice A3 H.length c3, .slice A n c]).cell j
    have hfa : Fr (fun _ => False) w3 (w3.alloc (.cells #[.slice A3 H.length c3, .slice A n c] 25)) := (Fr.refl _ w3).alloc _
    rw [Nat.zero_add, hcell]
    match i, hi with
    | 0, hi => injection hi with hi; subst hi; exact ⟨_, _, rfl, hc3, hl3.fr hfa (fun _ _ e => e)⟩
    | 1, hi => injection hi with hi; subst hi; exact ⟨_, _, by rw [HNn.out]; rfl, HCP.out, (HL.out w3 f3).fr hfa (fun _ _ e => e)⟩)
  clear hV hH hn h hTab hK hL1 hF hZ hcap f01 f0 he HN0
  go_enter Tryz.func43, Tryz.ntmps43
  go_wp2_with (first
    | (go_at_call 73; refine HC.out.mono ?_; rintro e w2 ⟨rfl, f2⟩; have F2 := Lib.hid f2; clear f2)
    | (go_at_call 74; refine (HH.out _ F2.out).mono ?_; rintro e w3 ⟨v3, rfl, o3⟩
       obtain ⟨A3, c3, rfl, hc3, hl3⟩ := o3.slice
       have F3 := Lib.hid (F2.out.trans o3.fr2 (fun _ _ e => e))
       have L3 := Lib.hid hl3
       have C3 := Lib.hid hc3
       clear o3 hl3 hc3)
    | (go_at_call 50
       refine (HSO.out _ _ (HPT.out w3 A3 c3 C3.out L3.out F3.out) (HK.out _ (F3.out.alloc _))).mono ?_
       rintro e w5 ⟨rfl, b5⟩
       have F5 := Lib.hid ((F3.out.alloc (.cells #[.slice A3 H.length c3, .slice A n c] 25)).then_below b5)
       clear b5)
    | (refine wpList_store_at rfl 48 _ _ rfl w.heap.size 0 48 _ V rfl rfl (HZ.out.fr F5.out (fun e => e)) (by rw [hvs]; decide) (by rw [hvs]; exact sizeID) hvo ?_
       intro w6 hw6 hf6
       rw [laidAt_all _ _ (by rw [hvs]; rfl)] at hw6))
  refine bodyPost_ret (v := .tuple #[.agg V, .int .i64 0]) (results_cell_slot (p := 4) (u := 5) rfl _ _ _ _ _ _ rfl hw6 Tryz.underlying48 rfl (by rw [hvs]; exact sizeID)) rfl ?_
  exact ⟨rfl, (HF.out.trans F5.out (fun _ _ e => e)).trans hf6 (fun i hi e => by omega)⟩
end Go.Proofs.YtkaeoflgnnlbeaaGreatDoor
/- What is proved: a pack of a blob is written and read, by the program. Conditions: the tables lie as their texts lay them. -/
namespace Go.Proofs.YtkaeoflgnnlbeaaGreatDoor
open Go.RowKit
set_option linter.unusedVariables false

def hiL : List UInt8 := [104, 105]
/-- The pack of a blob, but for its trailer. -/
def hiP : List UInt8 := layE (headP 1) 1 hiL none
theorem hiP_len : hiP.length = 20 := by decide +kernel
theorem hiP_read : opnD hiP 12 0 = ((1, 0, 20, crcI hiL, hiL), 0) := by decide +kernel
theorem hi_opn (T : List UInt8) (hT : T.length = 32) : opnE (hiP ++ T) 12 0 = ((1, 0, 20, crcI hiL, hiL), 0) := by
  have hl : (hiP ++ T).length = 52 := by rw [List.length_append, hiP_len, hT]
  unfold opnE
  rw [hl, if_neg (by decide), if_neg (by decide), List.take_left' (by rw [hiP_len]), hiP_read]
theorem hi_readP (rd : List UInt8 → (Int × Int × List DOp) × Int) (ap : List UInt8 → Int → Int → List DOp → List UInt8 × Int) (T : List UInt8) (hT : T.length = 32) : readP rd ap (hiP ++ T) 8 12 = ((1, hiL), 0) := by
  have h := hi_opn T hT
  unfold readP
  have e : (8 - ((7 : Nat) + 1 : Int)) = 0 := by decide
  simp only [e, h]
  rfl
theorem hi_says (rd : List UInt8 → (Int × Int × List DOp) × Int) (ap : List UInt8 → Int → Int → List DOp → List UInt8 × Int) (T : List UInt8) (hT : T.length = 32) : Says rd ap (hiP ++ T) 12 := by
  have h := hi_opn T hT
  have e : (8 - ((7 : Nat) + 1 : Int)) = 0 := by decide
  have hc : (chP (hiP ++ T) 8 12).1.reverse.tail = [] := by
    unfold chP
    simp only [e, h]
    rfl
  exact ⟨fun x hx => by rw [hc] at hx; simp at hx, fun hne => absurd hc hne⟩
def dl0 (a b : List UInt8) : List UInt8 × Int := ([], 0)
/-- The blob. -/
def hiI (b : Nat) : PIt := ⟨1, hiL, some ⟨b, 0, none⟩, 2⟩
theorem hi_wr (b : Nat) : wrR nmB sumL dl0 [hiI b] 2 = ((hiP ++ sumL hiP, [⟨idV (nmB 1 hiL).1, 12, crcI hiL⟩]), 0) := by
  have e1 : namesR nmB [hiI b] = ([(nmB 1 hiL).1], 0) := by
    unfold namesR
    have e : nmL nmB [hiI b] = ([(nmB 1 hiL).1], 0) := by
      unfold nmL
      rw [if_neg (by show ¬ (0 : Int) ≠ 0; simp)]
      rfl
    rw [e, if_neg (by simp), if_neg]
    rw [show setL [(nmB 1 hiL).1] = [(nmB 1 hiL).1] from rfl]
    simp
  have e2 : wrN dl0 [hiI b] 2 1 = (hiP, [(12, crcI hiL)], [0]) := by
    unfold wrN
    rfl
  unfold wrR
  rw [if_neg (by decide), e1, if_neg (by simp)]
  simp only [List.length_cons, List.length_nil, Nat.zero_add, e2]
  rfl

theorem pl_cell {w : World} {base : Nat} {vp : Value} {q : PPl} (hq : q.Ok) (o : w.ownsRow base 56 34 vp 1 (flatL [q])) : ∃ g c, vp = .slice (some ⟨g, 0, none⟩) 1 c ∧ w.cell? ⟨g, 32, none⟩ = some (.int .i64 q.at') := by
  rcases own_shape o with ⟨_, h, _⟩ | ⟨g, cap, hv, _⟩
  · cases h
  · subst hv
    refine ⟨g, cap, rfl, ?_⟩
    have h := World.ownsRow.cells o (g := g) rfl 32 (.int .i64 q.at') (by rw [flatL_one]; exact pl_at q hq)
    rwa [add_off, Nat.zero_add] at h

set_option maxHeartbeats 3200000 in
set_option maxRecDepth 100000 in
theorem works10_any (w : World) (hTab : Tab10 w) (hK : Tab w) : Calls Tryz.prog 9 #[] w fun e w' => e = .returned (.bool true) ∧ Fr (fun _ => False) w w' := by
  have hcv : (convert 25 25 (.slice (some ⟨w.heap.size, 0, none⟩) 2 2)).run Tryz.prog (w.alloc (.cells #[.int .u8 104, .int .u8 105] 5)) = .ok (.slice (some ⟨w.heap.size, 0, none⟩) 2 2) (w.alloc (.cells #[.int .u8 104, .int .u8 105] 5 (2, 3))) :=
    Lib.run_convert_bytes_const (P := Tryz.prog) w 25 5 #[.int .u8 104, .int .u8 105] 2 2 Tryz.underlying25 Tryz.underlying5
  obtain ⟨w1, hw1⟩ : ∃ w1, w.alloc (.cells #[.int .u8 104, .int .u8 105] 5 (2, 3)) = w1 := ⟨_, rfl⟩
  have hs1 : w1.heap.size = w.heap.size + 1 := by subst hw1; simp
  have hF1 : Fr (fun _ => False) w w1 := by subst hw1; exact (Fr.refl _ _).alloc _
  have hl1 : Lies w1 (some ⟨w.heap.size, 0, none⟩) (bytesV hiL) := .inr ⟨w.heap.size, 0, rfl, fun j u hu => by
    rw [Nat.zero_add]
    have e : w1.cell? ⟨w.heap.size, j, none⟩ = (#[.int .u8 104, .int .u8 105] : Array Value)[j]? := by subst hw1; exact cell_of_row _ _ _ _ _ _ (heap_alloc_new w _)
    rw [e, ← Array.getElem?_toList]; exact hu⟩
  obtain ⟨w2, hw2⟩ : ∃ w2, w1.alloc (.cells #[.int .i64 1, .slice (some ⟨w.heap.size, 0, none⟩) 2 2] 59) = w2 := ⟨_, rfl⟩
  have hF12 : Fr (fun _ => False) w1 w2 := by subst hw2; exact (Fr.refl _ _).alloc _
  have hF2 := hF1.trans hF12 (fun _ _ e => e)
  have hx2 : Whole w2 w1.heap.size 59 #[.int .i64 1, .slice (some ⟨w.heap.size, 0, none⟩) 2 2] := by subst hw2; exact Whole.new _ _ _
  have hit : Its w2 (some ⟨w1.heap.size, 0, none⟩) 1 [hiI w.heap.size] :=
    ⟨.inr ⟨w1.heap.size, 0, rfl, fun j u hu => by rw [Nat.zero_add, hx2.cell, ← Array.getElem?_toList]; exact hu⟩,
      fun p hp => by rw [List.mem_singleton.1 hp]; exact ⟨by show (-9223372036854775808 : Int) ≤ 1 ∧ (1 : Int) ≤ 9223372036854775807; decide, by show 2 ≤ 2; decide, by show 2 ≤ 9223372036854775807; decide, hl1.fr hF12 (fun _ _ e => e)⟩, Nat.le_refl _, by decide⟩
  have hW := PWrite_any nmB sumL dl0 (fun k b => sumL_len _) sumL_len (some ⟨w1.heap.size, 0, none⟩) 1 [hiI w.heap.size] 2 (by decide) 2 (fun p hp => by rw [List.mem_singleton.1 hp]; show 2 ≤ 2; decide) (by decide) (by show 1 ≤ 600; decide) (by show 12 + 1 * (25 + 2) ≤ 1048544; decide) w2 hit
    (fun p hp => by rw [List.mem_singleton.1 hp]; exact nm_blob w2 (hTab.fr hF2) (hK.fr hF2 (fun e => e)) hiL (by decide)) (fun p hp _ => by rw [List.mem_singleton.1 hp]; show (0 : Int) ≤ 1 ∧ (1 : Int) ≤ 4; decide) (so_says w2 (hK.fr hF2 (fun e => e))) (fun _ _ _ _ => rfl)
    (fun k p hp j hj => by
      have hk : k = 0 := by have := (List.getElem?_eq_some_iff.1 hp).1; simpa using this
      subst hk
      simp [candL] at hj)
  rw [hi_wr] at hW
  rw [hs1, show [hiI w.heap.size].length = 1 from rfl] at hW
  have HW := Lib.hid hW
  unfold WrPost at HW
  simp only [List.length_cons, List.length_nil, Nat.zero_add] at HW
  have HF2 := Lib.hid hF2
  obtain ⟨rd, hrd⟩ : ∃ rd : List UInt8 → (Int × Int × List DOp) × Int, rd = fun _ => ((0, 0, []), 0) := ⟨_, rfl⟩
  obtain ⟨ap, hap⟩ : ∃ ap : List UInt8 → Int → Int → List DOp → List UInt8 × Int, ap = fun _ _ _ _ => ([], 0) := ⟨_, rfl⟩
  have hBl : (hiP ++ sumL hiP).length = 52 := by rw [List.length_append, hiP_len, sumL_len]
  have HRd : Hid (∀ (A : Option Addr) c w', 52 ≤ c → c ≤ 9223372036854775807 → Lies w' A (bytesV (hiP ++ sumL hiP)) → Calls Tryz.prog 15 #[.slice A 52 c, .int .i64 12] w' (RdPost w' ((1, hiL), 0))) := Lib.hid (fun A c w' h1 h2 hl => by
    have h := PRead_any rd ap A c (hiP ++ sumL hiP) (by rw [hBl]; exact h1) h2 (by rw [hBl]; decide) 12 (by decide) (hi_says rd ap _ (sumL_len _)) w' hl
    rw [hi_readP rd ap _ (sumL_len _), hBl] at h
    exact h)
  unfold RdPost at HRd
  rw [hBl] at HW
  obtain ⟨BL, hBL⟩ : ∃ BL, hiP ++ sumL hiP = BL := ⟨_, rfl⟩
  rw [hBL] at HW HRd
  clear hrd hap hW hit hx2 hl1 hF1 hF12 hF2 hTab hK hBl hBL
  go_enter Tryz.func9, Tryz.ntmps9
  go_upto_region 2 with (first
    | (go_at_call 10; refine HW.out.mono ?_; rintro e w3 ⟨vb, vp, rfl, ob, op, hq, bb⟩; obtain ⟨Ab, cb, hvb, hcb, hcm⟩ := own_slice ob; subst hvb; obtain ⟨g, cg, hvp, hcell⟩ := pl_cell (hq _ (by simp)) op; subst hvp
       have HL3 := Lib.hid (Lies.of_own ob); have HC3 := Lib.hid (And.intro hcb hcm); have HF3 := Lib.hid (HF2.out.then_below bb); have x0 : w3.cell? ⟨g, 32, none⟩ = some (.int .i64 12) := hcell; clear ob op hq bb hcb hcm hcell))
  clear hw1 hw2 hcv hs1
  go_upto_region 4 with fail
  go_upto_region 5 with (first
    | (go_at_call 15; refine (HRd.out Ab cb w3 HC3.out.1 (by have := HC3.out.2; unfold maxLen at this; omega) HL3.out).mono ?_; rintro e w4 ⟨v4, rfl, o4, b4⟩; obtain ⟨A4, c4, hv4, -, -⟩ := own_slice o4; subst hv4
       have hcv := run_convert_lies (P := Tryz.prog) 25 9 5 Tryz.underlying25 Tryz.underlying5 Tryz.underlying9 (Lies.of_own o4) c4
       have HF4 := Lib.hid (HF3.out.then_below b4); clear o4 b4))
  rw [show hiL.length = 2 from rfl] at hcv ⊢
  rw [show strB hiL = ⟨#[104, 105]⟩ from rfl] at hcv
  go_wp2_with fail
  go_ret
  exact ⟨rfl, HF4.out⟩
end Go.Proofs.YtkaeoflgnnlbeaaGreatDoor

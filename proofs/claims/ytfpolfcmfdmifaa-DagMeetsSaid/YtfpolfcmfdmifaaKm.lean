/- What is proved: whether all of some numbers are nodes of a graph that is right, by the program and by the document. Conditions: the cells are there; at most ten lists, of at most a thousand numbers each. -/
import Derived.Test.YtfpolfcmfdmifaaKk
import Derived.Test.YtfpolfcmfdmifaaKl
namespace Go.Proofs.Ytfpolfcmfdmifaa
open Go.RowKit Go.Shelf
set_option linter.unusedVariables false

/-- Is a number no node's? -/
def badZ (N : Nat) (z : Int) : Bool := decide (z < 0) || decide (z ≥ (N : Int))
def nodE (G : List Nd) (l : List Int) : Int := if okG G = true then (if l.any (badZ G.length) = true then 2 else 0) else 12
theorem nodE_bad {G : List Nd} {l : List Int} (h : ¬ chkG G = 0) : nodE G l = chkG G := by
  unfold chkG at h ⊢
  unfold nodE
  split
  · rename_i e; rw [if_pos e] at h; exact absurd rfl h
  · rfl
theorem chk_ok {G : List Nd} (h : chkG G = 0) : okG G = true := by
  unfold chkG at h
  by_cases e : okG G = true
  · exact e
  · rw [if_neg e] at h; exact absurd h (by decide)
theorem nodE_ok {G : List Nd} {l : List Int} (h : chkG G = 0) : nodE G l = if l.any (badZ G.length) = true then 2 else 0 := by
  unfold nodE; rw [if_pos (chk_ok h)]

theorem DacheckOne_any (z : Int) (B N c : Nat) (A : Option Addr) (w : World) (h : w.cell? ⟨B, 0, none⟩ = some (.slice A N c)) :
    Calls Try.prog 37 #[.int .i64 z, .pointer (some ⟨B, 0, none⟩)] w fun e w' => e = .returned (.bool (badZ N z)) ∧ w = w' := by
  by_cases h1 : z < 0
  · have HE : Hid (badZ N z = true) := Lib.hid (by unfold badZ; rw [decide_eq_true h1]; rfl)
    go_enter Try.func37, Try.ntmps37
    go_wp2
    go_ret
    exact ⟨by rw [HE.out]; rfl, rfl⟩
  · obtain ⟨b, hb⟩ : ∃ b, decide (z ≥ (N : Int)) = b := ⟨_, rfl⟩
    have HE : Hid (badZ N z = b) := Lib.hid (by unfold badZ; rw [decide_eq_false h1, hb]; rfl)
    have hb2 : decide ((N : Int) ≤ z) = b := hb
    clear hb
    go_enter Try.func37, Try.ntmps37
    go_wp2
    go_ret
    exact ⟨by rw [HE.out]; first | rfl | (rw [← hb2]; rfl), rfl⟩

/-- A list of numbers, and where it lies. -/
structure Il where
  A : Option Addr
  c : Nat
  l : List Int
instance : Inhabited Il := ⟨⟨none, 0, []⟩⟩
def LAt (w : World) (A : Option Addr) (Ls : List Il) : Prop := ∀ w', Fr (fun _ => False) w w' → ∀ i (h : i < Ls.length), ∃ b o, A = some ⟨b, o, none⟩ ∧ w'.cell? ⟨b, o + i, none⟩ = some (.slice Ls[i].A Ls[i].l.length Ls[i].c) ∧ Lies w' Ls[i].A (zC Ls[i].l)

set_option maxHeartbeats 3200000 in
set_option maxRecDepth 100000 in
theorem DacheckAll_any (A : Option Addr) (c : Nat) (G : List Nd) (w : World) (h : GAt w A G) (B : Option Addr) (cB : Nat) (Ls : List Il) (hn : Ls.length ≤ 10) (hl : ∀ x ∈ Ls, x.l.length ≤ 1000) (hL : LAt w B Ls) :
    Calls Try.prog 29 #[.slice A G.length c, .slice B Ls.length cB] w fun e w' => e = .returned (.int .i64 (nodE G (Ls.flatMap (·.l)))) ∧ Below w.heap.size w w' := by
  have eg : ∀ args w, (callFunc 37 args).run Try.prog w = .ok (.enter 37 args) w := enters_of Try.func37 (by kernel_rfl) rfl
  have HChk := Lib.hid (fun w' (f : Fr (fun _ => False) w w') => DaCheck_any A c G w' (h.fr f))
  have HLs := Lib.hid hL
  have HCF := Lib.hid (fun w1 B N (i : Nat) (hi : i < Ls.length) (hc : w1.cell? ⟨B, 0, none⟩ = some (.slice A N c)) (hz : Lies w1 Ls[i].A (zC Ls[i].l)) => GnContainsF_any 37 #[.pointer (some ⟨B, 0, none⟩)] Ls[i].A Ls[i].c Ls[i].l (badZ N) w1 eg (by have := hl _ (List.getElem_mem hi); omega) (fun q z hz => (DacheckOne_any z B N c A q.w' (q.fr.cell hc (fun e => e))).mono (fun e w' ⟨h1, h2⟩ => ⟨h1, by rw [h2]; exact Below.refl _ _⟩)) hz)
  have HTk : Hid (∀ i (hi : i < Ls.length), (Ls.take (i + 1)).flatMap (·.l) = (Ls.take i).flatMap (·.l) ++ Ls[i].l) := Lib.hid (fun i hi => by
    rw [List.take_add_one, List.getElem?_eq_getElem hi, List.flatMap_append]; simp)
  have HAny : Hid (∀ i (hi : i < Ls.length) (p : Int → Bool), Ls[i].l.any p = true → (Ls.flatMap (·.l)).any p = true) := Lib.hid (fun i hi p hh => by
    rw [List.any_eq_true] at hh ⊢
    obtain ⟨z, h1, h2⟩ := hh
    exact ⟨z, List.mem_flatMap.2 ⟨_, List.getElem_mem hi, h1⟩, h2⟩)
  have HAll := Lib.hid (List.take_length (l := Ls))
  have HBad := Lib.hid (fun hh => nodE_bad (G := G) (l := Ls.flatMap (·.l)) hh)
  have HOk := Lib.hid (fun hh => nodE_ok (G := G) (l := Ls.flatMap (·.l)) hh)
  obtain ⟨K, hK⟩ : ∃ K, Ls.length = K := ⟨_, rfl⟩
  have HK := Lib.hid hK
  rw [hK] at hn HAll ⊢
  obtain ⟨N, hN⟩ : ∃ N, G.length = N := ⟨_, rfl⟩
  rw [hN] at HChk HOk ⊢
  obtain ⟨ck, hck⟩ : ∃ x, chkG G = x := ⟨_, rfl⟩
  rw [hck] at HChk HBad HOk
  obtain ⟨w1, hw1⟩ : ∃ w1, w.alloc (.cells #[.slice A N c] 22) = w1 := ⟨_, rfl⟩
  have HF1 := Lib.hid (show Fr (fun _ => False) w w1 from by subst hw1; exact (Fr.refl (fun _ => False) w).alloc _)
  have HW1 := Lib.hid (show Whole w1 w.heap.size 22 #[.slice A N c] from by subst hw1; exact Whole.new w 22 _)
  have c0 : w1.cell? ⟨w.heap.size, 0, none⟩ = some (.slice A N c) := by rw [HW1.out.cell]; rfl
  clear h hL hl hK hN hck
  by_cases he : ck = 0
  · subst he
    have HNo := Lib.hid (HOk.out rfl)
    go_enter Try.func29, Try.ntmps29
    go_wp2_with (go_at_call 11; refine (HChk.out _ HF1.out).mono ?_; rintro e w2 ⟨rfl, b2⟩; have HF2 := Lib.hid (HF1.out.then_below b2); have HW2 := Lib.hid (HW1.out.fr (Fr.of_below (S := fun _ => False) b2) (fun e => e)); clear b2)
    go_loopg [15] K (fun kx s15 wr => ∃ k : Nat, s15 = .int .i64 k ∧ k ≤ K ∧ K - k ≤ kx ∧ Hid (Fr (fun _ => False) w wr) ∧ Hid (Whole wr w.heap.size 22 #[.slice A N c]) ∧ Hid (((Ls.take k).flatMap (·.l)).any (badZ N) = false))
    case atStart => exact ⟨0, rfl, by omega, by omega, HF2, HW2, Lib.hid (by simp)⟩
    case round =>
      obtain ⟨k, rfl, hk, hkx, HFr, HWr, HB⟩ := hrel
      obtain ⟨wo, rfl⟩ : ∃ wo, wo = wr := ⟨wr, rfl⟩
      by_cases hlt : k < K
      · have hltz : (k : Int) < K := by omega
        have hkL : k < Ls.length := by rw [HK.out]; exact hlt
        obtain ⟨b, o, hBk, ca, hli⟩ := HLs.out wo HFr.out k hkL
        subst hBk
        have HCk := Lib.hid (HCF.out wo w.heap.size N k hkL (by rw [HWr.out.cell]; rfl) hli)
        have HTk1 := Lib.hid (HTk.out k hkL)
        have HAk := Lib.hid (HAny.out k hkL (badZ N))
        obtain ⟨r, hr⟩ : ∃ r, Ls[k].l.any (badZ N) = r := ⟨_, rfl⟩
        have HR := Lib.hid hr
        rw [hr] at HCk HAk
        obtain ⟨Ai, hAi⟩ : ∃ x, Ls[k].A = x := ⟨_, rfl⟩
        obtain ⟨ni, hni⟩ : ∃ x, Ls[k].l.length = x := ⟨_, rfl⟩
        obtain ⟨ci, hci⟩ : ∃ x, Ls[k].c = x := ⟨_, rfl⟩
        rw [hAi, hni, hci] at ca HCk
        have wk := wrap_nat1 k (by omega)
        have hE2 : Hid (r = true → nodE G (Ls.flatMap (·.l)) = 2) := Lib.hid (fun e => by rw [HNo.out, HAk.out e]; rfl)
        have HT2 : Hid (r = false → ((Ls.take (k + 1)).flatMap (·.l)).any (badZ N) = false) := Lib.hid (fun e => by rw [HTk1.out, List.any_append, HB.out, HR.out, e]; rfl)
        clear hli hr hAi hni hci HTk1 HAk HR
        cases r
        · have HT3 := Lib.hid (HT2.out rfl)
          go_wp2_with (go_at_call 36; refine HCk.out.mono ?_; rintro e w3 ⟨rfl, b3⟩; have HF3 := Lib.hid (HFr.out.then_below b3); have HW3 := Lib.hid (HWr.out.fr (Fr.of_below (S := fun _ => False) b3) (fun e => e)); clear b3)
          go_roundg (K - (k + 1))
          case measure => omega
          case rel => exact ⟨k + 1, by go_num, by omega, Nat.le_refl _, HF3, HW3, HT3⟩
        · have HE3 := Lib.hid (hE2.out rfl)
          go_wp2_with (go_at_call 36; refine HCk.out.mono ?_; rintro e w3 ⟨rfl, b3⟩; have HF3 := Lib.hid (HFr.out.then_below b3); clear b3)
          go_ret
          exact ⟨by rw [HE3.out]; rfl, HF3.out.below (fun _ _ e => e)⟩
      · obtain rfl : k = K := by omega
        have HE : Hid (nodE G (Ls.flatMap (·.l)) = 0) := Lib.hid (by
          have := HB.out
          rw [HAll.out] at this
          rw [HNo.out, this]; rfl)
        go_wp2
        go_ret
        exact ⟨by rw [HE.out]; rfl, HFr.out.below (fun _ _ e => e)⟩
  · have HE := Lib.hid (HBad.out he)
    have hen : (ck == 0) = false := by simpa using he
    go_enter Try.func29, Try.ntmps29
    go_wp2_with (go_at_call 11; refine (HChk.out _ HF1.out).mono ?_; rintro e w2 ⟨rfl, b2⟩; have HF2 := Lib.hid (HF1.out.then_below b2); clear b2)
    go_ret
    exact ⟨by rw [HE.out]; rfl, HF2.out.below (fun _ _ e => e)⟩

set_option maxHeartbeats 3200000 in
set_option maxRecDepth 100000 in
theorem QaNodes_any (A : Option Addr) (c : Nat) (G : List Nd) (w : World) (h : GAt w A G) (B : Option Addr) (cB : Nat) (l : List Int) (hn : l.length ≤ 10000) (hl : Lies w B (zC l)) :
    Calls Try.prog 18 #[.slice A G.length c, .slice B l.length cB] w fun e w' => e = .returned (.int .i64 (nodE G l)) ∧ Below w.heap.size w w' := by
  have HChk := Lib.hid (QaCheck_any A c G w h)
  have HLs := Lib.hid (fun w' (f : Fr (fun _ => False) w w') k hk => lies_int hl f k hk)
  have HBad := Lib.hid (fun hh => nodE_bad (G := G) (l := l) hh)
  have HOk := Lib.hid (fun hh => nodE_ok (G := G) (l := l) hh)
  have HAny : Hid (∀ k, k < l.length → ∀ p : Int → Bool, p (l.getD k 0) = true → l.any p = true) := Lib.hid (fun k hk p e => by
    rw [List.any_eq_true]
    refine ⟨_, ?_, e⟩
    rw [List.getD_eq_getElem?_getD, List.getElem?_eq_getElem hk]; exact List.getElem_mem hk)
  have HNone : Hid (∀ p : Int → Bool, (∀ k, k < l.length → p (l.getD k 0) = false) → l.any p = false) := Lib.hid (fun p hh => by
    rw [List.any_eq_false]
    intro z hz
    obtain ⟨k, hk, rfl⟩ := List.getElem_of_mem hz
    have := hh k hk
    rw [List.getD_eq_getElem?_getD, List.getElem?_eq_getElem hk, Option.getD_some] at this
    rw [this]; simp)
  obtain ⟨K, hK⟩ : ∃ K, l.length = K := ⟨_, rfl⟩
  rw [hK] at hn HLs HAny HNone ⊢
  obtain ⟨N, hN⟩ : ∃ N, G.length = N := ⟨_, rfl⟩
  rw [hN] at HChk HOk ⊢
  obtain ⟨ck, hck⟩ : ∃ x, chkG G = x := ⟨_, rfl⟩
  rw [hck] at HChk HBad HOk
  clear h hl hK hN hck
  by_cases he : ck = 0
  · subst he
    have HNo := Lib.hid (HOk.out rfl)
    go_enter Try.func18, Try.ntmps18
    go_wp2_with (go_at_call 8; refine HChk.out.mono ?_; rintro e w2 ⟨rfl, b2⟩; have HF2 := Lib.hid (Fr.of_below (S := fun _ => False) b2); clear b2)
    go_loopg [6] K (fun kx s6 wr => ∃ k : Nat, s6 = .int .i64 k ∧ k ≤ K ∧ K - k ≤ kx ∧ Hid (Fr (fun _ => False) w wr) ∧ Hid (∀ i, i < k → badZ N (l.getD i 0) = false))
    case atStart => exact ⟨0, rfl, by omega, by omega, HF2, Lib.hid (fun i hi => by omega)⟩
    case round =>
      obtain ⟨k, rfl, hk, hkx, HFr, HB⟩ := hrel
      obtain ⟨wo, rfl⟩ : ∃ wo, wo = wr := ⟨wr, rfl⟩
      have wk := wrap_nat1 k (by omega)
      by_cases hlt : k < K
      · have hltz : (k : Int) < K := by omega
        obtain ⟨b, o, hBk, cx⟩ := HLs.out wo HFr.out k hlt
        subst hBk
        have HAk := Lib.hid (HAny.out k hlt (badZ N))
        obtain ⟨y, hy⟩ : ∃ y, l.getD k 0 = y := ⟨_, rfl⟩
        have HY := Lib.hid hy
        rw [hy] at cx HAk
        clear hy
        by_cases hy0 : y < 0
        · have HE : Hid (nodE G l = 2) := Lib.hid (by rw [HNo.out, HAk.out (by unfold badZ; rw [decide_eq_true hy0]; rfl)]; rfl)
          go_wp2
          go_ret
          exact ⟨by rw [HE.out]; rfl, HFr.out.below (fun _ _ e => e)⟩
        by_cases hyn : (N : Int) ≤ y
        · have HE : Hid (nodE G l = 2) := Lib.hid (by rw [HNo.out, HAk.out (by unfold badZ; rw [decide_eq_true (p := y ≥ (N : Int)) hyn, Bool.or_true])]; rfl)
          go_wp2
          go_ret
          exact ⟨by rw [HE.out]; rfl, HFr.out.below (fun _ _ e => e)⟩
        have HE : Hid (badZ N y = false) := Lib.hid (by unfold badZ; rw [decide_eq_false hy0, decide_eq_false (p := y ≥ (N : Int)) hyn]; rfl)
        go_wp2
        go_roundg (K - (k + 1))
        case measure => omega
        case rel => exact ⟨k + 1, by go_num, by omega, Nat.le_refl _, HFr, Lib.hid (fun i hi => (by omega : i < k ∨ i = k).elim (HB.out i) (fun q => by rw [q, HY.out]; exact HE.out))⟩
      · obtain rfl : k = K := by omega
        have HE : Hid (nodE G l = 0) := Lib.hid (by rw [HNo.out, HNone.out (badZ N) HB.out]; rfl)
        go_wp2
        go_ret
        exact ⟨by rw [HE.out]; rfl, HFr.out.below (fun _ _ e => e)⟩
  · have HE := Lib.hid (HBad.out he)
    have hen : (ck == 0) = false := by simpa using he
    go_enter Try.func18, Try.ntmps18
    go_wp2_with (go_at_call 8; refine HChk.out.mono ?_; rintro e w2 ⟨rfl, b2⟩; have HF2 := Lib.hid (Fr.of_below (S := fun _ => False) b2); clear b2)
    go_ret
    exact ⟨by rw [HE.out]; rfl, HF2.out.below (fun _ _ e => e)⟩
end Go.Proofs.Ytfpolfcmfdmifaa

/- What is proved: what the walks of this seat need of layers below, merged out of the texts Rvh Rvi Rvj (of each just what is needed). Conditions: each theorem names its own. -/
import Derived.Test.YtkaeoflgnnlbeaaGreatDoorDb
import Derived.Test.YtkaeoflgnnlbeaaGreatDoorDba
import Derived.Test.YtkaeoflgnnlbeaaGreatDoorBd
/- What is proved: whether a commit may be, by the program and by the document. Conditions: the parents' cells are there, nothing is too long for any machine. -/
namespace Go.Proofs.YtkaeoflgnnlbeaaGreatDoor
open Go.RowKit Go.Sort Go.Shelf
open Ids (idC dgt big idC_size idC_get idC_one cellD zero32 size32 dgt_lt eq_nums)
set_option linter.unusedVariables false
/-- A commit's cells. -/
def revC (T : Nat) (v : Value) (a : List UInt8) (n : Int) (t : List UInt8) : Array Value := idC (dgt T) ++ #[v, .string (strB a), .int .i64 n, .string (strB t)]
section
variable (T : Nat) (v : Value) (a : List UInt8) (n : Int) (t : List UInt8)
theorem revC_size : (revC T v a n t).size = 36 := by simp [revC, idC_size]
theorem revC_v : (revC T v a n t)[32]? = some v := by rw [revC, Array.getElem?_append_right (by simp [idC_size])]; simp [idC_size]
theorem revC_a : (revC T v a n t)[33]? = some (.string (strB a)) := by rw [revC, Array.getElem?_append_right (by simp [idC_size])]; simp [idC_size]
theorem revC_n : (revC T v a n t)[34]? = some (.int .i64 n) := by rw [revC, Array.getElem?_append_right (by simp [idC_size])]; simp [idC_size]
theorem revC_t : (revC T v a n t)[35]? = some (.string (strB t)) := by rw [revC, Array.getElem?_append_right (by simp [idC_size])]; simp [idC_size]
theorem revC_id (j : Nat) (u : Value) (h : (idC (dgt T)).toList[j]? = some u) : (revC T v a n t)[j]? = some u := by
  have hj : j < 32 := by
    have := (List.getElem?_eq_some_iff.1 h).1
    rwa [Array.length_toList, idC_size] at this
  rw [revC, Array.getElem?_append_left (by rw [idC_size]; omega)]
  rwa [Array.getElem?_toList] at h
theorem revC_one (hv : v.oneCell' = true) : (revC T v a n t).all (·.oneCell') = true := by
  rw [revC, Array.all_append, idC_one, Bool.true_and]
  simp [hv]
  exact ⟨rfl, rfl, rfl⟩
end
theorem size36 : (Tryz.prog.info? 188).map (·.size) = some 36 := by kernel_rfl
/-- Where a commit lies. -/
def RevAt (w : World) (g : Nat) (T : Nat) (v : Value) (a : List UInt8) (n : Int) (t : List UInt8) : Prop := Whole w g 188 (revC T v a n t)
section
variable {w w' : World} {g : Nat} {T : Nat} {v : Value} {a : List UInt8} {n : Int} {t : List UInt8}
theorem RevAt.cv (h : RevAt w g T v a n t) : w.cell? ⟨g, 32, none⟩ = some v := (Whole.cell h 32).trans (revC_v ..)
theorem RevAt.ca (h : RevAt w g T v a n t) : w.cell? ⟨g, 33, none⟩ = some (.string (strB a)) := (Whole.cell h 33).trans (revC_a ..)
theorem RevAt.cn (h : RevAt w g T v a n t) : w.cell? ⟨g, 34, none⟩ = some (.int .i64 n) := (Whole.cell h 34).trans (revC_n ..)
theorem RevAt.ct (h : RevAt w g T v a n t) : w.cell? ⟨g, 35, none⟩ = some (.string (strB t)) := (Whole.cell h 35).trans (revC_t ..)
theorem RevAt.fr (h : RevAt w g T v a n t) (f : Fr (fun _ => False) w w') : RevAt w' g T v a n t := Whole.fr h f (fun e => e)
theorem RevAt.new (w : World) : RevAt (w.alloc (.cells (revC T v a n t) 188)) w.heap.size T v a n t := Whole.new w _ _
theorem RevAt.id (h : RevAt w g T v a n t) : w.rangeAt g 0 (idC (dgt T)).toList := fun j u hu => by
  rw [Nat.zero_add, Whole.cell h]
  exact revC_id T v a n t j u hu
end
def chkE (ps : List Nat) (a : List UInt8) (n : Int) (t : List UInt8) : Int := if 6 < ps.length ∨ 400 < t.length then 3 else if twN ps = true then 17 else if nameB a = false then 15 else if timeB n = false then 2 else 0
set_option maxHeartbeats 3200000 in
set_option maxRecDepth 100000 in
theorem VCheck_any (T : Nat) (A : Option Addr) (c : Nat) (ps : List Nat) (a : List UInt8) (n : Int) (t : List UInt8) (hc : ps.length ≤ c) (hb : ∀ n ∈ ps, n < big) (ha : a.length ≤ 9223372036854775806) (ht : t.length ≤ 9223372036854775806) (w : World) (h1 : Lies w A (flatI ps)) :
    Calls Tryz.prog 151 #[.agg (revC T (.slice A ps.length c) a n t)] w fun e w' => e = .returned (.int .i64 (chkE ps a n t)) ∧ Below w.heap.size w w' := by
  obtain ⟨w1, hw1⟩ : ∃ w1, w.alloc (.cells (revC T (.slice A ps.length c) a n t) 188) = w1 := ⟨_, rfl⟩
  have hF : Fr (fun _ => False) w w1 := by subst hw1; exact (Fr.refl _ w).alloc _
  have hS : RevAt w1 w.heap.size T (.slice A ps.length c) a n t := by subst hw1; exact RevAt.new w
  have HF := Lib.hid hF
  have HS := Lib.hid hS
  have hv := hS.cv
  have hct := hS.ct
  have HL := Lib.hid (fun w => VisLong_any t ht w)
  have HT0 := Lib.hid (fun (hl : ps.length ≤ 6) => Vtwice_any A c ps hc hb (by omega) w1 (h1.fr hF (fun _ _ e => e)))
  have HN := Lib.hid (fun w => RtName_any a ha w)
  have HI := Lib.hid (fun w => VisTime_any n w)
  have HCE : Hid (chkE ps a n t = if 6 < ps.length ∨ 400 < t.length then 3 else if twN ps = true then 17 else if nameB a = false then 15 else if timeB n = false then 2 else 0) := Lib.hid rfl
  have HA2 : Hid (∀ w', Below w1.heap.size w1 w' → w'.cell? ⟨w.heap.size, 33, none⟩ = some (.string (strB a)) ∧ w'.cell? ⟨w.heap.size, 34, none⟩ = some (.int .i64 n)) := Lib.hid (fun w' b => ⟨(hS.fr (Fr.of_below b)).ca, (hS.fr (Fr.of_below b)).cn⟩)
  obtain ⟨E, hE⟩ : ∃ E, chkE ps a n t = E := ⟨_, rfl⟩
  rw [hE] at HCE ⊢
  obtain ⟨cs, hcs⟩ : ∃ cs, revC T (.slice A ps.length c) a n t = cs := ⟨_, rfl⟩
  rw [hcs] at hw1 ⊢
  obtain ⟨L, hL⟩ : ∃ L, ps.length = L := ⟨_, rfl⟩
  obtain ⟨b1, hb1⟩ : ∃ b, decide (400 < t.length) = b := ⟨_, rfl⟩
  obtain ⟨b2, hb2⟩ : ∃ b, twN ps = b := ⟨_, rfl⟩
  obtain ⟨b3, hb3⟩ : ∃ b, nameB a = b := ⟨_, rfl⟩
  obtain ⟨b4, hb4⟩ : ∃ b, timeB n = b := ⟨_, rfl⟩
  rw [hb1] at HL
  rw [hb2] at HT0 HCE
  rw [hb3] at HN HCE
  rw [hb4] at HI HCE
  rw [hL] at hv HT0 HCE
  have HB1 := Lib.hid hb1
  obtain ⟨Sa, hSa⟩ : ∃ S, strB a = S := ⟨_, rfl⟩
  obtain ⟨St, hSt⟩ : ∃ S, strB t = S := ⟨_, rfl⟩
  rw [hSa] at HN HA2
  rw [hSt] at HL hct
  clear hE hcs hb1 hb2 hb3 hb4 hSa hSt hS hF HS h1 hb hc ha ht hL
  by_cases h6 : 6 < L
  · have hz6 : (6 : Int) < L := by omega
    have HE : Hid (E = 3) := Lib.hid (by rw [HCE.out, if_pos (.inl h6)])
    clear HCE HL HT0 HN HI HA2 HB1
    go_enter Tryz.func151, Tryz.ntmps151
    go_wp2_with fail
    go_ret
    exact ⟨ret_num HE.out.symm, HF.out.below (fun _ _ e => e)⟩
  · have hz6 : ¬ (6 : Int) < L := by omega
    have HT := Lib.hid (HT0.out (by omega))
    clear HT0
    cases b1
    · have hn : ¬ (6 < L ∨ 400 < t.length) := by
        have := of_decide_eq_false HB1.out
        omega
      have HCE := Lib.hid (HCE.out.trans (if_neg hn))
      clear hn HB1
      cases b2
      · have HCE := Lib.hid (HCE.out.trans (if_neg (by decide)))
        cases b3
        · have HE := Lib.hid (HCE.out.trans (if_pos rfl))
          clear HI HCE
          go_enter Tryz.func151, Tryz.ntmps151
          go_wp2_with (first
            | (go_at_call 171; refine (HL.out _).mono ?_; rintro e w' ⟨rfl, rfl⟩)
            | (go_at_call 172; refine HT.out.mono ?_; rintro e w2 ⟨rfl, bb⟩; obtain ⟨hca, hcn⟩ := HA2.out _ bb)
            | (go_at_call 162; refine (HN.out _).mono ?_; rintro e w' ⟨rfl, rfl⟩))
          go_ret
          exact ⟨ret_num HE.out.symm, (HF.out.then_below bb).below (fun _ _ e => e)⟩
        · have HCE := Lib.hid (HCE.out.trans (if_neg (by decide)))
          cases b4
          · have HE := Lib.hid (HCE.out.trans (if_pos rfl))
            clear HCE
            go_enter Tryz.func151, Tryz.ntmps151
            go_wp2_with (first
              | (go_at_call 171; refine (HL.out _).mono ?_; rintro e w' ⟨rfl, rfl⟩)
              | (go_at_call 172; refine HT.out.mono ?_; rintro e w2 ⟨rfl, bb⟩; obtain ⟨hca, hcn⟩ := HA2.out _ bb)
              | (go_at_call 162; refine (HN.out _).mono ?_; rintro e w' ⟨rfl, rfl⟩)
              | (go_at_call 173; refine (HI.out _).mono ?_; rintro e w' ⟨rfl, rfl⟩))
            go_ret
            exact ⟨ret_num HE.out.symm, (HF.out.then_below bb).below (fun _ _ e => e)⟩
          · have HE := Lib.hid (HCE.out.trans (if_neg (by decide)))
            clear HCE
            go_enter Tryz.func151, Tryz.ntmps151
            go_wp2_with (first
              | (go_at_call 171; refine (HL.out _).mono ?_; rintro e w' ⟨rfl, rfl⟩)
              | (go_at_call 172; refine HT.out.mono ?_; rintro e w2 ⟨rfl, bb⟩; obtain ⟨hca, hcn⟩ := HA2.out _ bb)
              | (go_at_call 162; refine (HN.out _).mono ?_; rintro e w' ⟨rfl, rfl⟩)
              | (go_at_call 173; refine (HI.out _).mono ?_; rintro e w' ⟨rfl, rfl⟩))
            go_ret
            exact ⟨ret_num HE.out.symm, (HF.out.then_below bb).below (fun _ _ e => e)⟩
      · have HE := Lib.hid (HCE.out.trans (if_pos rfl))
        clear HI HN HCE
        go_enter Tryz.func151, Tryz.ntmps151
        go_wp2_with (first
          | (go_at_call 171; refine (HL.out _).mono ?_; rintro e w' ⟨rfl, rfl⟩)
          | (go_at_call 172; refine HT.out.mono ?_; rintro e w2 ⟨rfl, bb⟩))
        go_ret
        exact ⟨ret_num HE.out.symm, (HF.out.then_below bb).below (fun _ _ e => e)⟩
    · have HE : Hid (E = 3) := Lib.hid (by rw [HCE.out, if_pos (.inr (of_decide_eq_true HB1.out))])
      clear HCE HT HN HI HA2 HB1
      go_enter Tryz.func151, Tryz.ntmps151
      go_wp2_with (go_at_call 171; refine (HL.out _).mono ?_; rintro e w' ⟨rfl, rfl⟩)
      go_ret
      exact ⟨ret_num HE.out.symm, HF.out.below (fun _ _ e => e)⟩
end Go.Proofs.YtkaeoflgnnlbeaaGreatDoor
/- What is proved: lines are laid behind bytes of the call's own, by the program. Conditions: the library's table lies as its text lays it. -/
namespace Go.Proofs.YtkaeoflgnnlbeaaGreatDoor
open Go.RowKit Go.Sort Go.Shelf
set_option linter.unusedVariables false
theorem OwnB.nil {w0 w : World} (f : Fr (fun _ => False) w0 w) : OwnB w0 w (.slice none 0 0) [] := ⟨World.ownsRow_nil w w0.heap.size 5 1, f⟩
theorem OwnB.grow {w0 w w' : World} {v v' : Value} {l m : List UInt8} (h : OwnB w0 w v l) {n k : Nat} (hn : n = l.length) (hk : k = m.length) (o : w'.ownsRow w0.heap.size 5 1 v' (n + k) (bytesV l ++ bytesV m)) (g : w.grownBy w' v.ownBlock) : OwnB w0 w' v' (l ++ m) := by
  refine ⟨?_, fr_append h.1 h.2 g⟩
  rw [List.length_append, bytesV_append, ← hn, ← hk]
  exact o
theorem OwnB.weaken {w0 w1 w : World} {v : Value} {l : List UInt8} (h : OwnB w1 w v l) (f : Fr (fun _ => False) w0 w1) : OwnB w0 w v l := by
  refine ⟨⟨h.1.1, ?_⟩, f.trans h.2 (fun _ _ e => e)⟩
  rcases h.1.2 with h0 | ⟨g, cap, cur, hv, hb, r⟩
  · exact .inl h0
  · exact .inr ⟨g, cap, cur, hv, Nat.le_trans f.size hb, r⟩
/-- A text's bytes, in a row of their own. -/
theorem conv_str (w : World) (l : List UInt8) : ∃ c w', (convert 9 25 (.string (strB l))).run Tryz.prog w = .ok (.slice (some ⟨w.heap.size, 0, none⟩) (strB l).size c) w' ∧ Fr (fun _ => False) w w' ∧ Lies w' (some ⟨w.heap.size, 0, none⟩) (bytesV l) := by
  refine ⟨_, _, run_bytes_of_string w 9 25 5 (strB l) Tryz.underlying9 Tryz.underlying25 Tryz.underlying5, (Fr.refl _ w).drew.alloc _, .inr ⟨w.heap.size, 0, rfl, fun j u hu => ?_⟩⟩
  show (w.drew.alloc _).cell? ⟨w.drew.heap.size, 0 + j, none⟩ = _
  rw [Nat.zero_add, cell_of_row _ _ _ _ _ _ (heap_alloc_new w.drew _)]
  have hj : j < l.length := by
    have := (List.getElem?_eq_some_iff.1 hu).1
    rwa [bytesV_length] at this
  rw [bytesRow, Array.getElem?_append_left (by simpa [strB] using hj), Array.getElem?_map]
  rw [bytesV, List.getElem?_map] at hu
  simpa [strB, byteV] using hu
end Go.Proofs.YtkaeoflgnnlbeaaGreatDoor

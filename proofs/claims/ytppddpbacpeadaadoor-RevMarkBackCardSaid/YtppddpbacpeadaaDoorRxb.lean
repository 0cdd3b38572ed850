/- What is proved: whether a tag may be, by the document. Conditions: nothing is too long for any machine. -/
import Derived.Test.YtppddpbacpeadaaDoorRxa
import Derived.Test.YtppddpbacpeadaaDoorRvi
namespace Go.Proofs.YtppddpbacpeadaaDoor
open Go.RowKit Go.Sort Go.Shelf
set_option linter.unusedVariables false

set_option maxHeartbeats 3200000 in
set_option maxRecDepth 100000 in
theorem QvCheckMark_any (T : Nat) (k : Int) (a : List UInt8) (n : Int) (t : List UInt8) (ha : a.length ≤ 9223372036854775806) (ht : t.length ≤ 9223372036854775806) (w : World) :
    Calls Tryd.prog 27 #[.agg (markC T k a n t)] w fun e w' => e = .returned (.int .i64 (mchkE k a n t)) ∧ Below w.heap.size w w' := by
  obtain ⟨w1, hw1⟩ : ∃ w1, w.alloc (.cells (markC T k a n t) 51) = w1 := ⟨_, rfl⟩
  have hF : Fr (fun _ => False) w w1 := by subst hw1; exact (Fr.refl _ w).alloc _
  have hS : MarkAt w1 w.heap.size T k a n t := by subst hw1; exact MarkAt.new w
  have HF := Lib.hid hF
  have hck := hS.ck
  have hct := hS.ct
  have hca := hS.ca
  have hcn := hS.cn
  have hts := strB_size t
  have HN := Lib.hid (fun w => QrName_any a ha w)
  have HCE : Hid (mchkE k a n t = if 400 < t.length then 3 else if k < 1 ∨ 4 < k then 19 else if nameB a = false then 15 else if timeB n = false then 2 else 0) := Lib.hid rfl
  have HCN : Hid (∀ w', Below w1.heap.size w1 w' → w'.cell? ⟨w.heap.size, 34, none⟩ = some (.int .i64 n)) := Lib.hid (fun w' b => (hS.fr (Fr.of_below b)).cn)
  have HTI := Lib.hid (timeB_cases n)
  obtain ⟨E, hE⟩ : ∃ E, mchkE k a n t = E := ⟨_, rfl⟩
  rw [hE] at HCE ⊢
  obtain ⟨cs, hcs⟩ : ∃ cs, markC T k a n t = cs := ⟨_, rfl⟩
  rw [hcs] at hw1 ⊢
  obtain ⟨M, hM⟩ : ∃ L, t.length = L := ⟨_, rfl⟩
  obtain ⟨b3, hb3⟩ : ∃ b, nameB a = b := ⟨_, rfl⟩
  obtain ⟨b4, hb4⟩ : ∃ b, timeB n = b := ⟨_, rfl⟩
  rw [hM] at HCE hts ht
  rw [hb3] at HN HCE
  rw [hb4] at HTI HCE
  obtain ⟨Sa, hSa⟩ : ∃ S, strB a = S := ⟨_, rfl⟩
  obtain ⟨St, hSt⟩ : ∃ S, strB t = S := ⟨_, rfl⟩
  rw [hSa] at HN hca
  rw [hSt] at hts hct
  clear hE hcs hM hb3 hb4 hSa hSt hS hF ha
  by_cases h4 : 400 < M
  · have hz4 : (400 : Int) < M := by omega
    have HE := Lib.hid (HCE.out.trans (if_pos h4))
    clear HCE HN HTI HCN
    go_enter Tryd.func27, Tryd.ntmps27
    go_wp2_with fail
    go_ret
    (
      exact ⟨ret_num HE.out.symm, HF.out.below (fun _ _ e => e)⟩)
  · have hz4 : ¬ (400 : Int) < M := by omega
    have HCE := Lib.hid (HCE.out.trans (if_neg h4))
    by_cases hk1 : k < 1
    · have HE := Lib.hid (HCE.out.trans (if_pos (.inl hk1)))
      clear HCE HN HTI HCN
      go_enter Tryd.func27, Tryd.ntmps27
      go_wp2_with fail
      go_ret
      (
        exact ⟨ret_num HE.out.symm, HF.out.below (fun _ _ e => e)⟩)
    · by_cases hk4 : 4 < k
      · have HE := Lib.hid (HCE.out.trans (if_pos (.inr hk4)))
        clear HCE HN HTI HCN
        go_enter Tryd.func27, Tryd.ntmps27
        go_wp2_with fail
        go_ret
        (
          exact ⟨ret_num HE.out.symm, HF.out.below (fun _ _ e => e)⟩)
      · have HCE := Lib.hid (HCE.out.trans (if_neg (by omega)))
        cases b3
        · have HE := Lib.hid (HCE.out.trans (if_pos rfl))
          clear HCE HTI
          go_enter Tryd.func27, Tryd.ntmps27
          go_wp2_with (go_at_call 36; refine (HN.out _).mono ?_; rintro e w2 ⟨rfl, bb⟩; have hcn := HCN.out _ bb)
          go_ret
          (
            exact ⟨ret_num HE.out.symm, (HF.out.then_below bb).below (fun _ _ e => e)⟩)
        · have HCE := Lib.hid (HCE.out.trans (if_neg (by decide)))
          rcases HTI.out with ⟨h1, h2, h3⟩ | ⟨h1, h2⟩ | ⟨h1, h2, h3⟩
          · have HE := Lib.hid (HCE.out.trans (if_neg (by rw [h1]; decide)))
            clear h1 HCE HTI
            go_enter Tryd.func27, Tryd.ntmps27
            go_wp2_with (go_at_call 36; refine (HN.out _).mono ?_; rintro e w2 ⟨rfl, bb⟩; have hcn := HCN.out _ bb)
            go_ret
            (
              exact ⟨ret_num HE.out.symm, (HF.out.then_below bb).below (fun _ _ e => e)⟩)
          · have HE := Lib.hid (HCE.out.trans (if_pos h1))
            clear h1 HCE HTI
            go_enter Tryd.func27, Tryd.ntmps27
            go_wp2_with (go_at_call 36; refine (HN.out _).mono ?_; rintro e w2 ⟨rfl, bb⟩; have hcn := HCN.out _ bb)
            go_ret
            (
              exact ⟨ret_num HE.out.symm, (HF.out.then_below bb).below (fun _ _ e => e)⟩)
          · have HE := Lib.hid (HCE.out.trans (if_pos h1))
            clear h1 HCE HTI
            go_enter Tryd.func27, Tryd.ntmps27
            go_wp2_with (go_at_call 36; refine (HN.out _).mono ?_; rintro e w2 ⟨rfl, bb⟩; have hcn := HCN.out _ bb)
            go_ret
            (
              exact ⟨ret_num HE.out.symm, (HF.out.then_below bb).below (fun _ _ e => e)⟩)
end Go.Proofs.YtppddpbacpeadaaDoor

/- What is proved: the document's Same tells of two lists that are one that they are. Conditions: the lists' cells are there. -/
import Derived.Test.YtbfbgopbelmghaaOje
namespace Go.Proofs.Ytbfbgopbelmghaa
open Go.RowKit
set_option linter.unusedVariables false

set_option maxHeartbeats 3200000 in
theorem QSame_same (A B : Option Addr) (ca cb : Nat) (ns : List Nat) (hb : ∀ n ∈ ns, n < big) (hn : ns.length ≤ 1000) (w : World) (h1 : Lies w A (flatI ns)) (h2 : Lies w B (flatI ns)) :
    Calls Try.prog 25 #[.slice A ns.length ca, .slice B ns.length cb] w fun e w' => e = .returned (.bool true) ∧ Below w.heap.size w w' := by
  have HL1 := Lib.hid h1
  have HL2 := Lib.hid h2
  have HB := Lib.hid hb
  obtain ⟨L, hL⟩ : ∃ L, ns.length = L := ⟨_, rfl⟩
  have HLn := Lib.hid hL
  obtain ⟨T32, hT32⟩ : ∃ T : TypeId, T = 23 := ⟨_, rfl⟩
  obtain ⟨n32, hn32⟩ : ∃ n : Nat, n = 32 := ⟨_, rfl⟩
  have ag32 : ∀ w, (isAgg T32).run Try.prog w = .ok true w := by rw [hT32]; exact fun _ => by kernel_rfl
  have sz32 : ∀ w, (sizeOf T32).run Try.prog w = .ok n32 w := by rw [hT32, hn32]; exact fun _ => by kernel_rfl
  have hgi := guardI
  have HN32 := Lib.hid hn32
  rw [hL] at hn ⊢
  clear h1 h2 hb hL hn32
  go_enter Try.func25, Try.ntmps25
  rw [show Op.load 23 (.tmp 19) = Op.load T32 (.tmp 19) by rw [hT32], show Op.load 23 (.tmp 23) = Op.load T32 (.tmp 23) by rw [hT32]]
  clear hT32
  go_wp2
  go_loopw [5] (fun i wr => ∃ k : Nat, k ≤ L ∧ i = .int .i64 k ∧ Fr (fun _ => False) w wr) (fun i _ => L - (intOf i).toNat)
  case atStart => exact ⟨0, by omega, rfl, Fr.refl _ _⟩
  case round =>
    obtain ⟨k, hk, rfl, hf⟩ := hrel
    have HFr := Lib.hid hf
    by_cases hlt : k < L
    · obtain ⟨b, o, hA⟩ := HL1.out.some_of (by rw [HLn.out]; omega)
      subst hA
      obtain ⟨b2, o2, hA⟩ := HL2.out.some_of (by rw [HLn.out]; omega)
      subst hA
      have hka := gt_some ns k (by rw [HLn.out]; exact hlt)
      have hma := HB.out _ (gt_mem ns k (by rw [HLn.out]; exact hlt))
      have l1 : ∀ q : Later wr, (loadCellsFrom ⟨b, o + k * 32, none⟩ 0 n32 #[]).run Try.prog q.w' = .ok (idC (dgt (gt ns k))) q.w' := fun q => by rw [HN32.out]; exact load_at HL1.out hka (HFr.out.trans q.fr (fun _ _ e => e))
      have l2 : ∀ q : Later wr, (loadCellsFrom ⟨b2, o2 + k * 32, none⟩ 0 n32 #[]).run Try.prog q.w' = .ok (idC (dgt (gt ns k))) q.w' := fun q => by rw [HN32.out]; exact load_at HL2.out hka (HFr.out.trans q.fr (fun _ _ e => e))
      have heq := fun w => eq_id_self (dgt (gt ns k)) (dgt_lt _) w
      obtain ⟨ca1, hca⟩ : ∃ c, idC (dgt (gt ns k)) = c := ⟨_, rfl⟩
      rw [hca] at l1 l2 heq
      have hk0 : (k : Int) < L := by omega
      have wk := wrap_nat k (by omega)
      clear hka hma hca hf
      go_wp2_with fail
      refine wp_region_later (w0 := wr) (Fr.refl _ _) (by kernel_rfl) (by kernel_rfl) ?_
      repeat (quiet_step (fail))
      refine wpQuiet_nil ?_
      intro _ hw'
      obtain ⟨q, hw''⟩ := hw'
      subst hw''
      go_wp2_with fail
      go_roundw
      case rel => exact ⟨k + 1, by omega, by go_num, HFr.out.trans q.fr (fun _ _ e => e)⟩
      case measure => simp [intOf]; omega
    · obtain rfl : k = L := by omega
      clear hf
      go_wp2_with fail
      go_ret
      exact ⟨rfl, HFr.out.below (fun _ _ e => e)⟩
end Go.Proofs.Ytbfbgopbelmghaa

/- What is proved: the document's Same tells of two lists that are one that they are. Conditions: the lists' cells are there. -/
import Derived.Test.YtcbgpbcfpeanjaaTrq
namespace Go.Proofs.Ytcbgpbcfpeanjaa
open Go.RowKit Go.Sort Go.Shelf
set_option linter.unusedVariables false

theorem guardE : Try.prog.eqGuardType Try.prog.depth 45 = false := by kernel_rfl
theorem entEq_self (e : Ent) : entEq e e = true := (entEq_iff e e).2 rfl
set_option maxHeartbeats 3200000 in
theorem QtSame_same (A B : Option Addr) (ca cb : Nat) (es : List Ent) (hn : es.length ≤ 100000) (w : World) (h1 : Lies w A (flatE es)) (h2 : Lies w B (flatE es)) :
    Calls Try.prog 12 #[.slice A es.length ca, .slice B es.length cb] w fun e w' => e = .returned (.bool true) ∧ Below w.heap.size w w' := by
  have HL1 := Lib.hid h1
  have HL2 := Lib.hid h2
  obtain ⟨L, hL⟩ : ∃ L, es.length = L := ⟨_, rfl⟩
  have HLn := Lib.hid hL
  obtain ⟨T, hT⟩ : ∃ T : TypeId, T = 45 := ⟨_, rfl⟩
  obtain ⟨n34, h34⟩ : ∃ n : Nat, n = 34 := ⟨_, rfl⟩
  have ag34 : ∀ w, (isAgg T).run Try.prog w = .ok true w := by rw [hT]; exact fun _ => by kernel_rfl
  have sz34 : ∀ w, (sizeOf T).run Try.prog w = .ok n34 w := by rw [hT, h34]; exact fun _ => by kernel_rfl
  have hgi := guardE
  have HN := Lib.hid h34
  rw [hL] at hn ⊢
  clear h1 h2 hL h34
  go_enter Try.func12, Try.ntmps12
  rw [show Op.load 45 (.tmp 19) = Op.load T (.tmp 19) by rw [hT], show Op.load 45 (.tmp 23) = Op.load T (.tmp 23) by rw [hT]]
  clear hT
  go_wp2
  go_loopg [5] L (fun kx s5 wr => ∃ k : Nat, k ≤ L ∧ s5 = .int .i64 k ∧ L - k ≤ kx ∧ Fr (fun _ => False) w wr)
  case atStart => exact ⟨0, by omega, rfl, by omega, Fr.refl _ _⟩
  case round =>
    obtain ⟨k, hk, rfl, hkx, hf⟩ := hrel
    obtain ⟨wo, rfl⟩ : ∃ wo, wo = wr := ⟨wr, rfl⟩
    have HFr := Lib.hid hf
    clear hf
    by_cases hlt : k < L
    · obtain ⟨b, o, hA⟩ := HL1.out.someE (by rw [HLn.out]; omega)
      subst hA
      obtain ⟨b2, o2, hA⟩ := HL2.out.someE (by rw [HLn.out]; omega)
      subst hA
      have hka := some_of_mem (es := es) (i := k) (by rw [HLn.out]; exact hlt)
      have l1 : ∀ q : Later wo, (loadCellsFrom ⟨b, o + k * 34, none⟩ 0 n34 #[]).run Try.prog q.w' = .ok (entV es[k]!).toArray q.w' := fun q => load_ent HL1.out hka (HFr.out.trans q.fr (fun _ _ e => e)) n34 HN.out
      have l2 : ∀ q : Later wo, (loadCellsFrom ⟨b2, o2 + k * 34, none⟩ 0 n34 #[]).run Try.prog q.w' = .ok (entV es[k]!).toArray q.w' := fun q => load_ent HL2.out hka (HFr.out.trans q.fr (fun _ _ e => e)) n34 HN.out
      have heq := fun w => eq_ents es[k]! es[k]! 10000 (by decide) w
      rw [entEq_self] at heq
      obtain ⟨c1, hc1⟩ : ∃ c, (entV es[k]!).toArray = c := ⟨_, rfl⟩
      rw [hc1] at l1 l2 heq
      have hk0 : (k : Int) < L := by omega
      have wk := wrap_nat k (by omega)
      clear hka hc1
      (
        go_wp2_with fail
        refine wp_region_later (w0 := wo) (Fr.refl _ _) (by kernel_rfl) (by kernel_rfl) ?_
        repeat (quiet_step (fail))
        refine wpQuiet_nil ?_
        intro _ hw'
        obtain ⟨q, hw''⟩ := hw'
        subst hw''
        go_wp2_with fail)
      go_roundg (L - (k + 1))
      case measure => omega
      case rel => exact ⟨k + 1, by omega, by go_num, Nat.le_refl _, HFr.out.trans q.fr (fun _ _ e => e)⟩
    · obtain rfl : k = L := by omega
      go_wp2_with fail
      go_ret
      exact ⟨rfl, HFr.out.below (fun _ _ e => e)⟩
end Go.Proofs.Ytcbgpbcfpeanjaa

/- What is proved: bytes are cut at the first byte 0, by the library. Conditions: the bytes' cells are there. -/
import Derived.Test.YtcbgpbcfpeanjaaTsa
import Derived.OwnWalk
namespace Go.Proofs.Ytcbgpbcfpeanjaa
open Go.RowKit Go.Sort Go.Shelf
set_option linter.unusedVariables false

theorem wrap_nz (k : Nat) (h : k ≤ 9223372036854775807) : IntKind.i64.wrap (k : Int) = k := by rw [IntKind.wrap_i64]; omega
theorem wrap_nz1 (k : Nat) (h : k ≤ 9223372036854775806) : IntKind.i64.wrap ((k : Int) + 1) = (k : Int) + 1 := by rw [IntKind.wrap_i64]; omega
set_option maxHeartbeats 1600000 in
set_option maxRecDepth 100000 in
theorem GbCut_any (A : Option Addr) (hA : Plain A) (c g : Nat) (l : List UInt8) (hl : l.length ≤ 9223372036854775806) (hcap : l.length ≤ c) (w : World) (h : Lies w A (bytesV l)) (hg : w.cell? ⟨g, 0, none⟩ = some (.int .u8 0)) :
    Calls Try.prog 41 #[.slice A l.length c, .slice (some ⟨g, 0, none⟩) 1 1] w fun e w' => (∃ A2 c1 c2, e = .returned (.tuple #[.slice A (nm l).length c1, .slice A2 (bh l).length c2, .bool (decide (0 ≤ idx0 l))]) ∧ Plain A2 ∧ (bh l).length ≤ c2 ∧ ∀ w0, Lies w0 A (bytesV l) → Lies w0 A2 (bytesV (bh l))) ∧ Below w.heap.size w w' := by
  have hr := Lib.hid (GbbIndex_any A hA c g l w h hg)
  have HL := Lib.hid h
  have HC := Lib.hid hcap
  rcases idx0_cases l with ⟨h1, h2, h3, _⟩ | ⟨m, h1, hml, h2, h3, _⟩
  · have HN := Lib.hid h2
    have HB := Lib.hid h3
    rw [h1] at hr
    rw [h2, h3, show decide (0 ≤ idx0 l) = false by rw [h1]; rfl]
    obtain ⟨n, hn⟩ : ∃ n, l.length = n := ⟨_, rfl⟩
    rw [hn] at hr ⊢
    clear h1 h2 h3 h hn hl hcap hA
    go_enter Try.func41, Try.ntmps41
    go_wp2_with (go_at_call 48; refine hr.out.mono ?_; rintro e w' ⟨rfl, rfl⟩)
    go_ret3
    refine ⟨⟨none, _, 0, rfl, .inl rfl, Nat.le_refl _, fun _ _ => .inl rfl⟩, ?_⟩
    first | exact (Fr.refl (fun _ => False) w).below (fun _ _ e => e) | exact ((Fr.refl (fun _ => False) w).drew).below (fun _ _ e => e)
  · have hn1 : (nm l).length = m := by rw [h2, List.length_take]; omega
    have hn2 : (bh l).length = l.length - (m + 1) := by rw [h3, List.length_drop]
    have HB : Hid (∀ w0, Lies w0 A (bytesV l) → Lies w0 (tlB A c (m + 1)) (bytesV (bh l))) := Lib.hid (fun w0 h0 => by rw [h3]; exact h0.tlB c (m + 1) hcap)
    have HP := Lib.hid (hA.tlB c (m + 1))
    rw [h1] at hr
    rw [hn1, hn2, show decide (0 ≤ idx0 l) = true by rw [h1]; simp]
    have s1 : ∀ w, (Instr.slice 30 (.slice A l.length c) none (some (.int .i64 m)) none).run Try.prog w = .ok (.slice A m c) w := fun w => slice_hdB A hA l.length c m (by omega) w
    have s2 : ∀ w, (Instr.slice 30 (.slice A l.length c) (some (.int .i64 ((m : Int) + 1))) none none).run Try.prog w = .ok (.slice (tlB A c (m + 1)) (l.length - (m + 1)) (c - (m + 1))) w := fun w => slice_tlB A l.length c (m + 1) (by omega) w
    obtain ⟨n, hn⟩ : ∃ n, l.length = n := ⟨_, rfl⟩
    obtain ⟨d, hd⟩ : ∃ d, n - (m + 1) = d := ⟨_, rfl⟩
    obtain ⟨c2, hc2⟩ : ∃ c2, c - (m + 1) = c2 := ⟨_, rfl⟩
    have HD : Hid (d ≤ c2) := Lib.hid (by omega)
    rw [hn] at hr s1 s2 hl hml ⊢
    rw [hd] at s2 ⊢
    rw [hc2] at s2
    obtain ⟨A2, hA2⟩ : ∃ A2, tlB A c (m + 1) = A2 := ⟨_, rfl⟩
    rw [hA2] at s2 HB HP
    have wk := wrap_nz (m + 1) (by omega)
    have hge : (m : Int) ≥ 0 := by omega
    have sc := wrap_nz1 m (by omega)
    clear h1 h2 h3 h hn hcap hA hn1 hn2 hd hc2 hA2
    go_enter Try.func41, Try.ntmps41
    go_wp2_with (go_at_call 48; refine hr.out.mono ?_; rintro e w' ⟨rfl, rfl⟩)
    go_region
    go_wp2
    go_ret3
    refine ⟨⟨A2, _, c2, rfl, HP.out, HD.out, HB.out⟩, ?_⟩
    first | exact (Fr.refl (fun _ => False) w).below (fun _ _ e => e) | exact ((Fr.refl (fun _ => False) w).drew).below (fun _ _ e => e)
end Go.Proofs.Ytcbgpbcfpeanjaa

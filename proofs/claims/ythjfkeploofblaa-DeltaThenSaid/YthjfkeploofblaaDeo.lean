/- What is proved: the law's own works answers true. Conditions: none. -/
import Derived.Test.YthjfkeploofblaaDen
import Derived.Lib.SlBytesConst
namespace Go.Proofs.Ythjfkeploofblaa
open Go.RowKit
set_option linter.unusedVariables false

def helloW : List UInt8 := [104, 101, 108, 108, 111, 44, 32, 119, 111, 114, 108, 100]
def helloT : List UInt8 := [104, 101, 108, 108, 111, 44, 32, 116, 104, 101, 114, 101]
def there5 : List UInt8 := [116, 104, 101, 114, 101]
theorem make_hello : makeO helloW helloT = [copyO 0 7, newO there5] := by rfl
theorem lies_const (w : World) (l : List UInt8) (fr : Nat × Nat) : Lies (w.alloc (.cells (bytesV l).toArray 5 fr)) (some ⟨w.heap.size, 0, none⟩) (bytesV l) :=
  .inr ⟨w.heap.size, 0, rfl, fun j u hu => by rw [Nat.zero_add, cell_of_row _ w.heap.size j _ _ _ (heap_alloc_new w _)]; simpa using hu⟩

theorem hello_ops {w3 : World} {A' : Option Addr} {c' : Nat} {ps : List POp} (sc : Scr w3 A' c' ps) (hops : opsO ps = [copyO 0 7, newO there5]) : ∃ b o B1 c1, A' = some ⟨b, o, none⟩ ∧ ps.length = 2 ∧
    ∀ w4, Fr (fun _ => False) w3 w4 → w4.cell? ⟨b, o, none⟩ = some (.bool true) ∧ w4.cell? ⟨b, o + 2, none⟩ = some (.int .i64 7) ∧ w4.cell? ⟨b, o + 4 + 3, none⟩ = some (.slice B1 5 c1) ∧ w4.cell? ⟨b, o + 7, none⟩ = some (.slice B1 5 c1) ∧ (convert 26 9 (.slice B1 5 c1)).run Try.prog w4 = .ok (.string ⟨#[116, 104, 101, 114, 101]⟩) w4 := by
  obtain ⟨p0, p1, hps⟩ : ∃ p0 p1, ps = [p0, p1] := by
    have hl : ps.length = 2 := by have := congrArg List.length hops; simpa [opsO] using this
    match ps, hl with
    | [p0, p1], _ => exact ⟨p0, p1, rfl⟩
  subst hps
  · simp only [opsO, List.map_cons, List.map_nil, List.cons.injEq, and_true] at hops
    obtain ⟨h0, h1⟩ := hops
    obtain ⟨b, o, hA⟩ := sc.addr (k := 0) (by simp)
    subst hA
    refine ⟨b, o, p1.B, p1.c, rfl, rfl, fun w4 f => ?_⟩
    obtain ⟨a0, a1, a2, a3⟩ := (sc.fr f).cells (k := 0) (p := p0) rfl
    obtain ⟨e0, e1, e2, e3⟩ := (sc.fr f).cells (k := 1) (p := p1) rfl
    have hl := ((sc.fr f).ok p1 (by simp)).lies
    rw [h0] at a0 a2
    rw [h1] at e3 hl
    have hcv := run_convert_lies (P := Try.prog) 26 9 5 Try.underlying26 Try.underlying5 Try.underlying9 hl p1.c
    exact ⟨a0, a2, e3, e3, hcv⟩

set_option maxHeartbeats 3200000 in
set_option maxRecDepth 100000 in
theorem works9_any (w : World) : Calls Try.prog 9 #[] w (Ans w (.bool true)) := by
  unfold Ans
  obtain ⟨w1, hw1⟩ : ∃ w1, w.alloc (.cells (bytesV helloW).toArray 5 (12, 13)) = w1 := ⟨_, rfl⟩
  have F1 : Fr (fun _ => False) w w1 := by subst hw1; exact (Fr.refl _ w).alloc _
  have hcv1 : (convert 26 26 (.slice (some ⟨w.heap.size, 0, none⟩) 12 12)).run Try.prog (w.alloc (.cells #[.int .u8 104, .int .u8 101, .int .u8 108, .int .u8 108, .int .u8 111, .int .u8 44, .int .u8 32, .int .u8 119, .int .u8 111, .int .u8 114, .int .u8 108, .int .u8 100] 5)) = .ok (.slice (some ⟨w.heap.size, 0, none⟩) 12 12) w1 := by
    rw [← hw1]
    exact Lib.run_convert_bytes_const (P := Try.prog) w 26 5 #[.int .u8 104, .int .u8 101, .int .u8 108, .int .u8 108, .int .u8 111, .int .u8 44, .int .u8 32, .int .u8 119, .int .u8 111, .int .u8 114, .int .u8 108, .int .u8 100] 12 12 Try.underlying26 Try.underlying5
  have L1 : Lies w1 (some ⟨w.heap.size, 0, none⟩) (bytesV helloW) := by subst hw1; exact lies_const _ _ _
  obtain ⟨w2, hw2⟩ : ∃ w2, w1.alloc (.cells (bytesV helloT).toArray 5 (12, 13)) = w2 := ⟨_, rfl⟩
  have F2 : Fr (fun _ => False) w1 w2 := by subst hw2; exact (Fr.refl _ w1).alloc _
  have hcv2 : (convert 26 26 (.slice (some ⟨w1.heap.size, 0, none⟩) 12 12)).run Try.prog (w1.alloc (.cells #[.int .u8 104, .int .u8 101, .int .u8 108, .int .u8 108, .int .u8 111, .int .u8 44, .int .u8 32, .int .u8 116, .int .u8 104, .int .u8 101, .int .u8 114, .int .u8 101] 5)) = .ok (.slice (some ⟨w1.heap.size, 0, none⟩) 12 12) w2 := by
    rw [← hw2]
    exact Lib.run_convert_bytes_const (P := Try.prog) w1 26 5 #[.int .u8 104, .int .u8 101, .int .u8 108, .int .u8 108, .int .u8 111, .int .u8 44, .int .u8 32, .int .u8 116, .int .u8 104, .int .u8 101, .int .u8 114, .int .u8 101] 12 12 Try.underlying26 Try.underlying5
  have L2 : Lies w2 (some ⟨w1.heap.size, 0, none⟩) (bytesV helloT) := by subst hw2; exact lies_const _ _ _
  have HMk := Lib.hid (DMake_any (some ⟨w.heap.size, 0, none⟩) (some ⟨w1.heap.size, 0, none⟩) 12 12 helloW helloT (by decide) (by decide) (by decide) (by decide) w2 (L1.fr F2 (fun _ _ e => e)) L2)
  have HF := Lib.hid (F1.trans F2 (fun _ _ e => e))
  rw [make_hello, show helloW.length = 12 from rfl, show helloT.length = 12 from rfl] at HMk
  have hs1 : w1.heap.size = w.heap.size + 1 := by subst hw1; simp
  have HS1 := Lib.hid hs1
  clear F1 F2 L1 L2 hw1 hw2 hs1
  go_enter Try.func9, Try.ntmps9
  go_wp2_with (go_at_call 19; refine HMk.out.mono ?_; rintro e w3 ⟨A', c', ps, rfl, sc, hops, b3⟩
               obtain ⟨b, o, B1, c1, rfl, hp2, hall⟩ := hello_ops sc hops
               rw [hp2]
               obtain ⟨w4, hw4⟩ : ∃ w4, w3.alloc (.cells #[.int .i64 12, .int .i64 12, .slice (some ⟨b, o, none⟩) 2 c'] 24) = w4 := ⟨_, rfl⟩
               have f4 : Fr (fun _ => False) w3 w4 := by subst hw4; exact (Fr.refl _ w3).alloc _
               have s4 : SAt w4 w3.heap.size 24 12 12 (.slice (some ⟨b, o, none⟩) 2 c') := by subst hw4; exact SAt.new w3 24 12 12 _
               obtain ⟨a0, a2, e3, e7, hcv⟩ := hall w4 f4
               obtain ⟨s0, s1, s2⟩ := s4.cells
               have HF4 := Lib.hid ((HF.out.then_below b3).trans f4 (fun _ _ e => e))
               clear f4 s4 hall b3 sc hops)
  go_ret
  exact ⟨rfl, HF4.out.below (fun _ _ e => e)⟩
end Go.Proofs.Ythjfkeploofblaa

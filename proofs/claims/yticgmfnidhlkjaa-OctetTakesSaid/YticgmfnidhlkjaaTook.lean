/- What is proved: a call of the Reader and of the document's reader, side by side, tell the same (the law's own took). Conditions: both readers are held by the caller, over the same bytes, at the same place, with the same error. -/
import Derived.Test.YticgmfnidhlkjaaQtx
namespace Go.Proofs.Yticgmfnidhlkjaa
open Go.RowKit
set_option linter.unusedVariables false

structure Both (w : World) (g h : Nat) (v : Value) (A : Option Addr) (cap : Nat) (bs : List UInt8) (p : Nat) (er : Int) : Prop where
  rd : Rd w g v bs p er
  qd : Qd w h A cap bs p er
  ne : g ≠ h
  vne : ∀ j, v.ownBlock = some j → j ≠ h
  ane : ∀ ad, A = some ad → bs ≠ [] → ad.block ≠ g
def TookPost (w : World) (g h : Nat) (v : Value) (A : Option Addr) (cap : Nat) (bs : List UInt8) (p : Nat) (er : Int) (e : Ending) (w' : World) : Prop :=
  e = .returned (.bool true) ∧ Both w' g h v A cap bs p er ∧ Fr (fun k => k = g ∨ k = h) w w'

/-- Both moved on: first the reader, then the document's. -/
theorem both_next {w w1 w2 : World} {g h : Nat} {v : Value} {A : Option Addr} {cap : Nat} {bs : List UInt8} {p p' : Nat} {er er' : Int} (b : Both w g h v A cap bs p er)
    (r1 : Rd w1 g v bs p' er') (f1 : RFr g w w1) (q2 : Qd w2 h A cap bs p' er') (f2 : RFr h w1 w2) : Both w2 g h v A cap bs p' er' ∧ Fr (fun k => k = g ∨ k = h) w w2 :=
  ⟨⟨r1.fr f2 b.ne (fun j hj => b.vne j hj), q2, b.ne, b.vne, b.ane⟩, (Fr.mono f1 (fun _ _ e => .inl e)).trans f2 (fun _ _ e => .inr e)⟩
theorem qd_after {w w1 : World} {g h : Nat} {v : Value} {A : Option Addr} {cap : Nat} {bs : List UInt8} {p : Nat} {er : Int} (b : Both w g h v A cap bs p er) (f1 : RFr g w w1) : Qd w1 h A cap bs p er :=
  b.qd.fr f1 (fun e => b.ne e.symm) (fun ad e hb e2 => b.ane ad e hb e2)

theorem fr_undrew {g : Nat} {w w1 : World} (f : RFr g w.drew w1) : RFr g w w1 := ⟨f.os, f.tape, f.output, f.size, f.block⟩
theorem own_undrew {w w1 : World} {e : TypeId} {size n : Nat} {v : Value} {xs : List Value} (h : w1.ownsRow w.drew.heap.size e size v n xs) : w1.ownsRow w.heap.size e size v n xs := h
theorem num_one (bs : List UInt8) (p : Nat) (er : Int) : numV bs p er 1 = (byteAt bs p er).toNat := by
  unfold numV
  by_cases he : er = 0
  · subst he
    by_cases hp : p < bs.length
    · have e1 : (bs.drop p).take 1 = [byteAt bs p 0] := by rw [drop_byte hp]; rfl
      rw [if_pos (hasErr_ok (by omega)), e1]
      simp [bigV]
    · have e1 : byteAt bs p 0 = 0 := by
        unfold byteAt
        rw [if_pos rfl, List.getD_eq_getElem?_getD, List.getElem?_eq_none (by omega)]
        rfl
      rw [if_neg (by rw [show ((1 : Nat) : Int) = 1 from rfl, hasErr_end (by omega)]; decide), e1]
      rfl
  · have e1 : byteAt bs p er = 0 := by unfold byteAt; rw [if_neg he]
    rw [if_neg (by rw [hasErr_err he]; exact he), e1]
    rfl

set_option maxHeartbeats 4000000 in
set_option maxRecDepth 100000 in
theorem took_0 (g h : Nat) (v : Value) (A : Option Addr) (cap : Nat) (bs : List UInt8) (p p2 : Nat) (er e2 : Int) (n m : Int) (w : World) (b : Both w g h v A cap bs p er)
    (hp2 : stepAt bs.length p er 1 = p2) (he2 : hasErr bs.length p er 1 = e2) :
    Calls Try.prog 16 #[.pointer (some ⟨g, 0, none⟩), .pointer (some ⟨h, 0, none⟩), .agg #[.int .i64 0, .int .u64 n, .int .i64 m]] w (TookPost w g h v A cap bs p2 e2) := by
  have hba : Below w.heap.size w (w.alloc (.cells #[.int .i64 0, .int .u64 n, .int .i64 m] 44)) := (Below.refl _ _).alloc (Nat.le_refl _) _
  have hbf : Fr (fun k => k = g ∨ k = h) w (w.alloc (.cells #[.int .i64 0, .int .u64 n, .int .i64 m] 44)) := Fr.of_below hba
  have B0 : Both (w.alloc (.cells #[.int .i64 0, .int .u64 n, .int .i64 m] 44)) g h v A cap bs p er := ⟨b.rd.below hba, b.qd.below hba, b.ne, b.vne, b.ane⟩
  have HB0 := Lib.hid B0
  have hgl : g < w.heap.size := b.rd.whole.lt
  have hhl : h < w.heap.size := b.qd.whole.lt
  have hgn : ¬ w.heap.size = g := by omega
  have hhn : ¬ w.heap.size = h := by omega
  have hc : ∀ W, Qd W h A cap bs p er → Calls Try.prog 37 #[.pointer (some ⟨h, 0, none⟩), .int .i64 1] W (QPost W h A cap bs (.int .u64 (byteAt bs p er).toNat) p2 e2) := fun W q => by
    have := qBig_any h A cap bs p er 1 W q (by omega)
    rw [num_one, show ((1 : Nat) : Int) = 1 from rfl, hp2, he2] at this
    exact this
  have hr : ∀ W, Rd W g v bs p er → Calls Try.prog 17 #[.pointer (some ⟨g, 0, none⟩)] W (RPost W g v bs (.int .u8 (byteAt bs p er).toNat) p2 e2) := fun W q => by
    have := RByte_any g v bs p er W q
    rw [hp2, he2] at this
    exact this
  have hb255 : ((((byteAt bs p er).toNat : Nat)) : Int) < 256 := by have := (byteAt bs p er).toNat_lt; omega
  have hb0 : (0 : Int) ≤ ((((byteAt bs p er).toNat : Nat)) : Int) := by omega
  obtain ⟨c, hcc⟩ : ∃ c : Int, ((((byteAt bs p er).toNat : Nat)) : Int) = c := ⟨_, rfl⟩
  rw [hcc] at hc hr hb255 hb0
  have HC := Lib.hid hc
  have HR := Lib.hid hr
  clear hc hr hcc
  obtain ⟨e3, he3⟩ : ∃ e3, endErr bs.length p2 e2 = e3 := ⟨_, rfl⟩
  obtain ⟨L, hL⟩ : ∃ L : Int, (bs.length : Int) - p2 = L := ⟨_, rfl⟩
  have HE3 := Lib.hid he3
  have HL := Lib.hid hL
  clear B0 hp2 he2 he3 hL
  go_enter Try.func16, Try.ntmps16
  go_wp2_with (first
    | (go_at_call 17; refine (HR.out _ HB0.out.rd).mono ?_; rintro e w1 ⟨rfl, r1, f1⟩; have R1 := Lib.hid r1; have F1 := Lib.hid f1; clear r1 f1)
    | (go_at_call 37; refine (HC.out _ (qd_after HB0.out F1.out)).mono ?_; rintro e w2 ⟨rfl, q2, f2⟩; have Q2 := Lib.hid q2; have F2 := Lib.hid f2; clear q2 f2))
  have hBN := both_next HB0.out R1.out F1.out Q2.out F2.out
  have HBN := Lib.hid hBN
  have qc0 := hBN.1.qd.c0
  have qc1 := hBN.1.qd.c1
  have qc2 := hBN.1.qd.c2
  have hle := hBN.1.rd.le
  have hsm := hBN.1.rd.small
  have hL := HL.out
  have HLE := Lib.hid (fun j => (by rw [← HL.out]; exact RLeft_any g v bs p2 e2 (w2.drewN j) (hBN.1.rd.drewN j) : Calls Try.prog 25 #[.pointer (some ⟨g, 0, none⟩)] (w2.drewN j) (QuietPost (w2.drewN j) (.int .i64 L))))
  have HEN := Lib.hid (fun j => (by rw [← HE3.out]; exact REnd_any g v bs p2 e2 (w2.drewN j) (hBN.1.rd.drewN j) : Calls Try.prog 23 #[.pointer (some ⟨g, 0, none⟩)] (w2.drewN j) (QuietPost (w2.drewN j) (.int .i64 e3))))
  have HQE := Lib.hid (fun j => (by rw [← HE3.out]; exact qEnd_any h A cap bs p2 e2 (w2.drewN j) (hBN.1.qd.drewN j) : Calls Try.prog 41 #[.pointer (some ⟨h, 0, none⟩)] (w2.drewN j) (QuietPost (w2.drewN j) (.int .i64 e3))))
  clear hBN
  go_quiet (first
    | (go_at_call 24; exact Calls.quiet_of_same ((RErr_any g v bs p2 e2 _ (HBN.out.1.rd.drewN _)).mono fun _ _ hh => ⟨hh.1, hh.2.symm⟩))
    | (go_at_call 28; exact Calls.quiet_of_same ((RAt_any g v bs p2 e2 _ (HBN.out.1.rd.drewN _)).mono fun _ _ hh => ⟨hh.1, hh.2.symm⟩))
    | (go_at_call 25; exact Calls.quiet_of (HLE.out _))
    | (go_at_call 23; exact Calls.quiet_of (HEN.out _))
    | (go_at_call 41; exact Calls.quiet_of (HQE.out _)))
  go_wp2_with fail
  go_ret
  exact ⟨rfl, ⟨HBN.out.1.rd.drewN _, HBN.out.1.qd.drewN _, HBN.out.1.ne, HBN.out.1.vne, HBN.out.1.ane⟩, hbf.trans (HBN.out.2.drewN _) (fun _ _ e => e)⟩

set_option maxHeartbeats 4000000 in
set_option maxRecDepth 100000 in
theorem took_1 (g h : Nat) (v : Value) (A : Option Addr) (cap : Nat) (bs : List UInt8) (p p2 : Nat) (er e2 : Int) (n m : Int) (w : World) (b : Both w g h v A cap bs p er)
    (hp2 : stepAt bs.length p er 4 = p2) (he2 : hasErr bs.length p er 4 = e2) :
    Calls Try.prog 16 #[.pointer (some ⟨g, 0, none⟩), .pointer (some ⟨h, 0, none⟩), .agg #[.int .i64 1, .int .u64 n, .int .i64 m]] w (TookPost w g h v A cap bs p2 e2) := by
  have hba : Below w.heap.size w (w.alloc (.cells #[.int .i64 1, .int .u64 n, .int .i64 m] 44)) := (Below.refl _ _).alloc (Nat.le_refl _) _
  have hbf : Fr (fun k => k = g ∨ k = h) w (w.alloc (.cells #[.int .i64 1, .int .u64 n, .int .i64 m] 44)) := Fr.of_below hba
  have B0 : Both (w.alloc (.cells #[.int .i64 1, .int .u64 n, .int .i64 m] 44)) g h v A cap bs p er := ⟨b.rd.below hba, b.qd.below hba, b.ne, b.vne, b.ane⟩
  have HB0 := Lib.hid B0
  have hgl : g < w.heap.size := b.rd.whole.lt
  have hhl : h < w.heap.size := b.qd.whole.lt
  have hgn : ¬ w.heap.size = g := by omega
  have hhn : ¬ w.heap.size = h := by omega
  have hc : ∀ W, Qd W h A cap bs p er → Calls Try.prog 37 #[.pointer (some ⟨h, 0, none⟩), .int .i64 4] W (QPost W h A cap bs (.int .u64 (numV bs p er 4)) p2 e2) := fun W q => by
    have := qBig_any h A cap bs p er 4 W q (by omega)
    rw [show ((4 : Nat) : Int) = 4 from rfl, hp2, he2] at this
    exact this
  have hr : ∀ W, Rd W g v bs p er → Calls Try.prog 18 #[.pointer (some ⟨g, 0, none⟩)] W (RPost W g v bs (.int .u32 (numV bs p er 4)) p2 e2) := fun W q => by
    have := RU32_any g v bs p er W q
    rw [hp2, he2] at this
    exact this
  have hb255 : ((((numV bs p er 4) : Nat)) : Int) < 4294967296 := by have := numV_lt bs p er 4; omega
  have hb0 : (0 : Int) ≤ ((((numV bs p er 4) : Nat)) : Int) := by omega
  obtain ⟨c, hcc⟩ : ∃ c : Int, ((((numV bs p er 4) : Nat)) : Int) = c := ⟨_, rfl⟩
  rw [hcc] at hc hr hb255 hb0
  have HC := Lib.hid hc
  have HR := Lib.hid hr
  clear hc hr hcc
  obtain ⟨e3, he3⟩ : ∃ e3, endErr bs.length p2 e2 = e3 := ⟨_, rfl⟩
  obtain ⟨L, hL⟩ : ∃ L : Int, (bs.length : Int) - p2 = L := ⟨_, rfl⟩
  have HE3 := Lib.hid he3
  have HL := Lib.hid hL
  clear B0 hp2 he2 he3 hL
  go_enter Try.func16, Try.ntmps16
  go_wp2_with (first
    | (go_at_call 18; refine (HR.out _ HB0.out.rd).mono ?_; rintro e w1 ⟨rfl, r1, f1⟩; have R1 := Lib.hid r1; have F1 := Lib.hid f1; clear r1 f1)
    | (go_at_call 37; refine (HC.out _ (qd_after HB0.out F1.out)).mono ?_; rintro e w2 ⟨rfl, q2, f2⟩; have Q2 := Lib.hid q2; have F2 := Lib.hid f2; clear q2 f2))
  have hBN := both_next HB0.out R1.out F1.out Q2.out F2.out
  have HBN := Lib.hid hBN
  have qc0 := hBN.1.qd.c0
  have qc1 := hBN.1.qd.c1
  have qc2 := hBN.1.qd.c2
  have hle := hBN.1.rd.le
  have hsm := hBN.1.rd.small
  have hL := HL.out
  have HLE := Lib.hid (fun j => (by rw [← HL.out]; exact RLeft_any g v bs p2 e2 (w2.drewN j) (hBN.1.rd.drewN j) : Calls Try.prog 25 #[.pointer (some ⟨g, 0, none⟩)] (w2.drewN j) (QuietPost (w2.drewN j) (.int .i64 L))))
  have HEN := Lib.hid (fun j => (by rw [← HE3.out]; exact REnd_any g v bs p2 e2 (w2.drewN j) (hBN.1.rd.drewN j) : Calls Try.prog 23 #[.pointer (some ⟨g, 0, none⟩)] (w2.drewN j) (QuietPost (w2.drewN j) (.int .i64 e3))))
  have HQE := Lib.hid (fun j => (by rw [← HE3.out]; exact qEnd_any h A cap bs p2 e2 (w2.drewN j) (hBN.1.qd.drewN j) : Calls Try.prog 41 #[.pointer (some ⟨h, 0, none⟩)] (w2.drewN j) (QuietPost (w2.drewN j) (.int .i64 e3))))
  clear hBN
  go_quiet (first
    | (go_at_call 24; exact Calls.quiet_of_same ((RErr_any g v bs p2 e2 _ (HBN.out.1.rd.drewN _)).mono fun _ _ hh => ⟨hh.1, hh.2.symm⟩))
    | (go_at_call 28; exact Calls.quiet_of_same ((RAt_any g v bs p2 e2 _ (HBN.out.1.rd.drewN _)).mono fun _ _ hh => ⟨hh.1, hh.2.symm⟩))
    | (go_at_call 25; exact Calls.quiet_of (HLE.out _))
    | (go_at_call 23; exact Calls.quiet_of (HEN.out _))
    | (go_at_call 41; exact Calls.quiet_of (HQE.out _)))
  go_wp2_with fail
  go_ret
  exact ⟨rfl, ⟨HBN.out.1.rd.drewN _, HBN.out.1.qd.drewN _, HBN.out.1.ne, HBN.out.1.vne, HBN.out.1.ane⟩, hbf.trans (HBN.out.2.drewN _) (fun _ _ e => e)⟩

set_option maxHeartbeats 4000000 in
set_option maxRecDepth 100000 in
theorem took_2 (g h : Nat) (v : Value) (A : Option Addr) (cap : Nat) (bs : List UInt8) (p p2 : Nat) (er e2 : Int) (n m : Int) (w : World) (b : Both w g h v A cap bs p er)
    (hp2 : stepAt bs.length p er 8 = p2) (he2 : hasErr bs.length p er 8 = e2) :
    Calls Try.prog 16 #[.pointer (some ⟨g, 0, none⟩), .pointer (some ⟨h, 0, none⟩), .agg #[.int .i64 2, .int .u64 n, .int .i64 m]] w (TookPost w g h v A cap bs p2 e2) := by
  have hba : Below w.heap.size w (w.alloc (.cells #[.int .i64 2, .int .u64 n, .int .i64 m] 44)) := (Below.refl _ _).alloc (Nat.le_refl _) _
  have hbf : Fr (fun k => k = g ∨ k = h) w (w.alloc (.cells #[.int .i64 2, .int .u64 n, .int .i64 m] 44)) := Fr.of_below hba
  have B0 : Both (w.alloc (.cells #[.int .i64 2, .int .u64 n, .int .i64 m] 44)) g h v A cap bs p er := ⟨b.rd.below hba, b.qd.below hba, b.ne, b.vne, b.ane⟩
  have HB0 := Lib.hid B0
  have hgl : g < w.heap.size := b.rd.whole.lt
  have hhl : h < w.heap.size := b.qd.whole.lt
  have hgn : ¬ w.heap.size = g := by omega
  have hhn : ¬ w.heap.size = h := by omega
  have hc : ∀ W, Qd W h A cap bs p er → Calls Try.prog 37 #[.pointer (some ⟨h, 0, none⟩), .int .i64 8] W (QPost W h A cap bs (.int .u64 (numV bs p er 8)) p2 e2) := fun W q => by
    have := qBig_any h A cap bs p er 8 W q (by omega)
    rw [show ((8 : Nat) : Int) = 8 from rfl, hp2, he2] at this
    exact this
  have hr : ∀ W, Rd W g v bs p er → Calls Try.prog 19 #[.pointer (some ⟨g, 0, none⟩)] W (RPost W g v bs (.int .u64 (numV bs p er 8)) p2 e2) := fun W q => by
    have := RU64_any g v bs p er W q
    rw [hp2, he2] at this
    exact this
  have hb255 : ((((numV bs p er 8) : Nat)) : Int) < 18446744073709551616 := by have := numV_lt bs p er 8; omega
  have hb0 : (0 : Int) ≤ ((((numV bs p er 8) : Nat)) : Int) := by omega
  obtain ⟨c, hcc⟩ : ∃ c : Int, ((((numV bs p er 8) : Nat)) : Int) = c := ⟨_, rfl⟩
  rw [hcc] at hc hr hb255 hb0
  have HC := Lib.hid hc
  have HR := Lib.hid hr
  clear hc hr hcc
  obtain ⟨e3, he3⟩ : ∃ e3, endErr bs.length p2 e2 = e3 := ⟨_, rfl⟩
  obtain ⟨L, hL⟩ : ∃ L : Int, (bs.length : Int) - p2 = L := ⟨_, rfl⟩
  have HE3 := Lib.hid he3
  have HL := Lib.hid hL
  clear B0 hp2 he2 he3 hL
  go_enter Try.func16, Try.ntmps16
  go_wp2_with (first
    | (go_at_call 19; refine (HR.out _ HB0.out.rd).mono ?_; rintro e w1 ⟨rfl, r1, f1⟩; have R1 := Lib.hid r1; have F1 := Lib.hid f1; clear r1 f1)
    | (go_at_call 37; refine (HC.out _ (qd_after HB0.out F1.out)).mono ?_; rintro e w2 ⟨rfl, q2, f2⟩; have Q2 := Lib.hid q2; have F2 := Lib.hid f2; clear q2 f2))
  have hBN := both_next HB0.out R1.out F1.out Q2.out F2.out
  have HBN := Lib.hid hBN
  have qc0 := hBN.1.qd.c0
  have qc1 := hBN.1.qd.c1
  have qc2 := hBN.1.qd.c2
  have hle := hBN.1.rd.le
  have hsm := hBN.1.rd.small
  have hL := HL.out
  have HLE := Lib.hid (fun j => (by rw [← HL.out]; exact RLeft_any g v bs p2 e2 (w2.drewN j) (hBN.1.rd.drewN j) : Calls Try.prog 25 #[.pointer (some ⟨g, 0, none⟩)] (w2.drewN j) (QuietPost (w2.drewN j) (.int .i64 L))))
  have HEN := Lib.hid (fun j => (by rw [← HE3.out]; exact REnd_any g v bs p2 e2 (w2.drewN j) (hBN.1.rd.drewN j) : Calls Try.prog 23 #[.pointer (some ⟨g, 0, none⟩)] (w2.drewN j) (QuietPost (w2.drewN j) (.int .i64 e3))))
  have HQE := Lib.hid (fun j => (by rw [← HE3.out]; exact qEnd_any h A cap bs p2 e2 (w2.drewN j) (hBN.1.qd.drewN j) : Calls Try.prog 41 #[.pointer (some ⟨h, 0, none⟩)] (w2.drewN j) (QuietPost (w2.drewN j) (.int .i64 e3))))
  clear hBN
  go_quiet (first
    | (go_at_call 24; exact Calls.quiet_of_same ((RErr_any g v bs p2 e2 _ (HBN.out.1.rd.drewN _)).mono fun _ _ hh => ⟨hh.1, hh.2.symm⟩))
    | (go_at_call 28; exact Calls.quiet_of_same ((RAt_any g v bs p2 e2 _ (HBN.out.1.rd.drewN _)).mono fun _ _ hh => ⟨hh.1, hh.2.symm⟩))
    | (go_at_call 25; exact Calls.quiet_of (HLE.out _))
    | (go_at_call 23; exact Calls.quiet_of (HEN.out _))
    | (go_at_call 41; exact Calls.quiet_of (HQE.out _)))
  go_wp2_with fail
  go_ret
  exact ⟨rfl, ⟨HBN.out.1.rd.drewN _, HBN.out.1.qd.drewN _, HBN.out.1.ne, HBN.out.1.vne, HBN.out.1.ane⟩, hbf.trans (HBN.out.2.drewN _) (fun _ _ e => e)⟩

set_option maxHeartbeats 4000000 in
set_option maxRecDepth 100000 in
theorem took_3 (g h : Nat) (v : Value) (A : Option Addr) (cap : Nat) (bs : List UInt8) (p p2 : Nat) (er e2 : Int) (n m : Int) (w : World) (b : Both w g h v A cap bs p er) (hn0 : 0 ≤ n) (hn1 : n < 18446744073709551616)
    (hp2 : (varO bs p er n).2.1 = p2) (he2 : (varO bs p er n).2.2 = e2) :
    Calls Try.prog 16 #[.pointer (some ⟨g, 0, none⟩), .pointer (some ⟨h, 0, none⟩), .agg #[.int .i64 3, .int .u64 n, .int .i64 m]] w (TookPost w g h v A cap bs p2 e2) := by
  have hba : Below w.heap.size w (w.alloc (.cells #[.int .i64 3, .int .u64 n, .int .i64 m] 44)) := (Below.refl _ _).alloc (Nat.le_refl _) _
  have hbf : Fr (fun k => k = g ∨ k = h) w (w.alloc (.cells #[.int .i64 3, .int .u64 n, .int .i64 m] 44)) := Fr.of_below hba
  have B0 : Both (w.alloc (.cells #[.int .i64 3, .int .u64 n, .int .i64 m] 44)) g h v A cap bs p er := ⟨b.rd.below hba, b.qd.below hba, b.ne, b.vne, b.ane⟩
  have HB0 := Lib.hid B0
  have hgl : g < w.heap.size := b.rd.whole.lt
  have hhl : h < w.heap.size := b.qd.whole.lt
  have hgn : ¬ w.heap.size = g := by omega
  have hhn : ¬ w.heap.size = h := by omega
  have hc : ∀ W, Qd W h A cap bs p er → Calls Try.prog 38 #[.pointer (some ⟨h, 0, none⟩), .int .u64 n] W (QPost W h A cap bs (.int .u64 (varO bs p er n).1) p2 e2) := fun W q => by
    have := qVar_any h A cap bs p er n W q hn0 hn1
    rw [hp2, he2] at this
    exact this
  have hr : ∀ W, Rd W g v bs p er → Calls Try.prog 20 #[.pointer (some ⟨g, 0, none⟩), .int .u64 n] W (RPost W g v bs (.int .u64 (varO bs p er n).1) p2 e2) := fun W q => by
    have := RVar_any g v bs p er n W q hn0 hn1
    unfold VarPost at this
    rw [hp2, he2] at this
    exact this
  obtain ⟨c, hcc⟩ : ∃ c : Int, (((varO bs p er n).1 : Nat) : Int) = c := ⟨_, rfl⟩
  rw [hcc] at hc hr
  have HC := Lib.hid hc
  have HR := Lib.hid hr
  clear hc hr hcc
  obtain ⟨e3, he3⟩ : ∃ e3, endErr bs.length p2 e2 = e3 := ⟨_, rfl⟩
  obtain ⟨L, hL⟩ : ∃ L : Int, (bs.length : Int) - p2 = L := ⟨_, rfl⟩
  have HE3 := Lib.hid he3
  have HL := Lib.hid hL
  clear B0 hp2 he2 he3 hL
  go_enter Try.func16, Try.ntmps16
  go_wp2_with fail
  go_region_held3 (fun w' => w'.cell? ⟨w.heap.size, 1, none⟩ = some (.int .u64 n)) (go_keep)
    (first
      | (go_at_call 20; refine (HR.out _ ?_).mono ?_; exact (HB0.out.rd.drewN 1); rintro e w1 ⟨rfl, r1, f1⟩; have kc := Fr.cell f1 (p := ⟨w.heap.size, 1, none⟩) (u := .int .u64 n) (by simp) hgn; have R1 := Lib.hid r1; have F1 := Lib.hid (fr_undrew f1); clear r1 f1)
      | (go_at_call 38; refine (HC.out _ ?_).mono ?_; exact (qd_after HB0.out F1.out); rintro e w2 ⟨rfl, q2, f2⟩; have kc2 := Fr.cell f2 (p := ⟨w.heap.size, 1, none⟩) (u := .int .u64 n) kc hhn; have Q2 := Lib.hid q2; have F2 := Lib.hid f2; clear q2 f2))
  go_wp2_with fail
  have hBN := both_next HB0.out R1.out F1.out Q2.out F2.out
  have HBN := Lib.hid hBN
  have qc0 := hBN.1.qd.c0
  have qc1 := hBN.1.qd.c1
  have qc2 := hBN.1.qd.c2
  have hle := hBN.1.rd.le
  have hsm := hBN.1.rd.small
  have hL := HL.out
  have HLE := Lib.hid (fun j => (by rw [← HL.out]; exact RLeft_any g v bs p2 e2 (w2.drewN j) (hBN.1.rd.drewN j) : Calls Try.prog 25 #[.pointer (some ⟨g, 0, none⟩)] (w2.drewN j) (QuietPost (w2.drewN j) (.int .i64 L))))
  have HEN := Lib.hid (fun j => (by rw [← HE3.out]; exact REnd_any g v bs p2 e2 (w2.drewN j) (hBN.1.rd.drewN j) : Calls Try.prog 23 #[.pointer (some ⟨g, 0, none⟩)] (w2.drewN j) (QuietPost (w2.drewN j) (.int .i64 e3))))
  have HQE := Lib.hid (fun j => (by rw [← HE3.out]; exact qEnd_any h A cap bs p2 e2 (w2.drewN j) (hBN.1.qd.drewN j) : Calls Try.prog 41 #[.pointer (some ⟨h, 0, none⟩)] (w2.drewN j) (QuietPost (w2.drewN j) (.int .i64 e3))))
  clear hBN
  go_quiet (first
    | (go_at_call 24; exact Calls.quiet_of_same ((RErr_any g v bs p2 e2 _ (HBN.out.1.rd.drewN _)).mono fun _ _ hh => ⟨hh.1, hh.2.symm⟩))
    | (go_at_call 28; exact Calls.quiet_of_same ((RAt_any g v bs p2 e2 _ (HBN.out.1.rd.drewN _)).mono fun _ _ hh => ⟨hh.1, hh.2.symm⟩))
    | (go_at_call 25; exact Calls.quiet_of (HLE.out _))
    | (go_at_call 23; exact Calls.quiet_of (HEN.out _))
    | (go_at_call 41; exact Calls.quiet_of (HQE.out _)))
  go_wp2_with fail
  go_ret
  exact ⟨rfl, ⟨HBN.out.1.rd.drewN _, HBN.out.1.qd.drewN _, HBN.out.1.ne, HBN.out.1.vne, HBN.out.1.ane⟩, hbf.trans (HBN.out.2.drewN _) (fun _ _ e => e)⟩

set_option maxHeartbeats 4000000 in
set_option maxRecDepth 100000 in
theorem took_4 (g h : Nat) (v : Value) (A : Option Addr) (cap : Nat) (bs : List UInt8) (p p2 : Nat) (er e2 : Int) (n m : Int) (w : World) (b : Both w g h v A cap bs p er) (hm0 : -9223372036854775808 ≤ m) (hm1 : m ≤ 9223372036854775807)
    (hp2 : (textO bs p er m).2.1 = p2) (he2 : (textO bs p er m).2.2 = e2) :
    Calls Try.prog 16 #[.pointer (some ⟨g, 0, none⟩), .pointer (some ⟨h, 0, none⟩), .agg #[.int .i64 4, .int .u64 n, .int .i64 m]] w (TookPost w g h v A cap bs p2 e2) := by
  have hba : Below w.heap.size w (w.alloc (.cells #[.int .i64 4, .int .u64 n, .int .i64 m] 44)) := (Below.refl _ _).alloc (Nat.le_refl _) _
  have hbf : Fr (fun k => k = g ∨ k = h) w (w.alloc (.cells #[.int .i64 4, .int .u64 n, .int .i64 m] 44)) := Fr.of_below hba
  have B0 : Both (w.alloc (.cells #[.int .i64 4, .int .u64 n, .int .i64 m] 44)) g h v A cap bs p er := ⟨b.rd.below hba, b.qd.below hba, b.ne, b.vne, b.ane⟩
  have HB0 := Lib.hid B0
  have hgl : g < w.heap.size := b.rd.whole.lt
  have hhl : h < w.heap.size := b.qd.whole.lt
  have hgn : ¬ w.heap.size = g := by omega
  have hhn : ¬ w.heap.size = h := by omega
  have hc : ∀ W, Qd W h A cap bs p er → Calls Try.prog 39 #[.pointer (some ⟨h, 0, none⟩), .int .i64 m] W (QPost W h A cap bs (.string (strB (textO bs p er m).1)) p2 e2) := fun W q => by
    have := qText_any h A cap bs p er m W q hm0 hm1
    unfold QTextPost at this
    rw [hp2, he2] at this
    exact this
  have hr : ∀ W, Rd W g v bs p er → Calls Try.prog 21 #[.pointer (some ⟨g, 0, none⟩), .int .i64 m] W (RPost W g v bs (.string (strB (textO bs p er m).1)) p2 e2) := fun W q => by
    have := RText_any g v bs p er m W q hm0 hm1
    unfold TextPost at this
    rw [hp2, he2] at this
    exact this
  obtain ⟨c, hcc⟩ : ∃ c : ByteArray, strB (textO bs p er m).1 = c := ⟨_, rfl⟩
  rw [hcc] at hc hr
  have HC := Lib.hid hc
  have HR := Lib.hid hr
  clear hc hr hcc
  obtain ⟨e3, he3⟩ : ∃ e3, endErr bs.length p2 e2 = e3 := ⟨_, rfl⟩
  obtain ⟨L, hL⟩ : ∃ L : Int, (bs.length : Int) - p2 = L := ⟨_, rfl⟩
  have HE3 := Lib.hid he3
  have HL := Lib.hid hL
  clear B0 hp2 he2 he3 hL
  go_enter Try.func16, Try.ntmps16
  go_wp2_with fail
  go_region_held3 (fun w' => w'.cell? ⟨w.heap.size, 2, none⟩ = some (.int .i64 m)) (go_keep)
    (first
      | (go_at_call 21; refine (HR.out _ ?_).mono ?_; exact (HB0.out.rd.drewN 1); rintro e w1 ⟨rfl, r1, f1⟩; have kc := Fr.cell f1 (p := ⟨w.heap.size, 2, none⟩) (u := .int .i64 m) (by simp) hgn; have R1 := Lib.hid r1; have F1 := Lib.hid (fr_undrew f1); clear r1 f1)
      | (go_at_call 39; refine (HC.out _ ?_).mono ?_; exact (qd_after HB0.out F1.out); rintro e w2 ⟨rfl, q2, f2⟩; have kc2 := Fr.cell f2 (p := ⟨w.heap.size, 2, none⟩) (u := .int .i64 m) kc hhn; have Q2 := Lib.hid q2; have F2 := Lib.hid f2; clear q2 f2))
  go_wp2_with fail
  have hBN := both_next HB0.out R1.out F1.out Q2.out F2.out
  have HBN := Lib.hid hBN
  have qc0 := hBN.1.qd.c0
  have qc1 := hBN.1.qd.c1
  have qc2 := hBN.1.qd.c2
  have hle := hBN.1.rd.le
  have hsm := hBN.1.rd.small
  have hL := HL.out
  have HLE := Lib.hid (fun j => (by rw [← HL.out]; exact RLeft_any g v bs p2 e2 (w2.drewN j) (hBN.1.rd.drewN j) : Calls Try.prog 25 #[.pointer (some ⟨g, 0, none⟩)] (w2.drewN j) (QuietPost (w2.drewN j) (.int .i64 L))))
  have HEN := Lib.hid (fun j => (by rw [← HE3.out]; exact REnd_any g v bs p2 e2 (w2.drewN j) (hBN.1.rd.drewN j) : Calls Try.prog 23 #[.pointer (some ⟨g, 0, none⟩)] (w2.drewN j) (QuietPost (w2.drewN j) (.int .i64 e3))))
  have HQE := Lib.hid (fun j => (by rw [← HE3.out]; exact qEnd_any h A cap bs p2 e2 (w2.drewN j) (hBN.1.qd.drewN j) : Calls Try.prog 41 #[.pointer (some ⟨h, 0, none⟩)] (w2.drewN j) (QuietPost (w2.drewN j) (.int .i64 e3))))
  clear hBN
  go_quiet (first
    | (go_at_call 24; exact Calls.quiet_of_same ((RErr_any g v bs p2 e2 _ (HBN.out.1.rd.drewN _)).mono fun _ _ hh => ⟨hh.1, hh.2.symm⟩))
    | (go_at_call 28; exact Calls.quiet_of_same ((RAt_any g v bs p2 e2 _ (HBN.out.1.rd.drewN _)).mono fun _ _ hh => ⟨hh.1, hh.2.symm⟩))
    | (go_at_call 25; exact Calls.quiet_of (HLE.out _))
    | (go_at_call 23; exact Calls.quiet_of (HEN.out _))
    | (go_at_call 41; exact Calls.quiet_of (HQE.out _)))
  go_wp2_with fail
  go_ret
  exact ⟨rfl, ⟨HBN.out.1.rd.drewN _, HBN.out.1.qd.drewN _, HBN.out.1.ne, HBN.out.1.vne, HBN.out.1.ane⟩, hbf.trans (HBN.out.2.drewN _) (fun _ _ e => e)⟩

set_option maxHeartbeats 4000000 in
set_option maxRecDepth 100000 in
theorem took_5 (g h : Nat) (v : Value) (A : Option Addr) (cap : Nat) (bs : List UInt8) (p p2 : Nat) (er e2 : Int) (n m : Int) (d : Int) (w : World) (b : Both w g h v A cap bs p er) (hm0 : -9223372036854775808 ≤ m) (hm1 : m ≤ 9223372036854775807) (hd : d ≠ 0 ∧ d ≠ 1 ∧ d ≠ 2 ∧ d ≠ 3 ∧ d ≠ 4)
    (hp2 : rawAt bs.length p er m = p2) (he2 : rawErr bs.length p er m = e2) :
    Calls Try.prog 16 #[.pointer (some ⟨g, 0, none⟩), .pointer (some ⟨h, 0, none⟩), .agg #[.int .i64 d, .int .u64 n, .int .i64 m]] w (TookPost w g h v A cap bs p2 e2) := by
  have hba : Below w.heap.size w (w.alloc (.cells #[.int .i64 d, .int .u64 n, .int .i64 m] 44)) := (Below.refl _ _).alloc (Nat.le_refl _) _
  have hbf : Fr (fun k => k = g ∨ k = h) w (w.alloc (.cells #[.int .i64 d, .int .u64 n, .int .i64 m] 44)) := Fr.of_below hba
  have B0 : Both (w.alloc (.cells #[.int .i64 d, .int .u64 n, .int .i64 m] 44)) g h v A cap bs p er := ⟨b.rd.below hba, b.qd.below hba, b.ne, b.vne, b.ane⟩
  have HB0 := Lib.hid B0
  have hgl : g < w.heap.size := b.rd.whole.lt
  have hhl : h < w.heap.size := b.qd.whole.lt
  have hgn : ¬ w.heap.size = g := by omega
  have hhn : ¬ w.heap.size = h := by omega
  have hc : ∀ W, Qd W h A cap bs p er → Calls Try.prog 40 #[.pointer (some ⟨h, 0, none⟩), .int .i64 m] W (QRawPost W h A cap bs p er m) := fun W q => qRaw_any h A cap bs p er m W q hm0 hm1
  have hr : ∀ W, Rd W g v bs p er → Calls Try.prog 22 #[.pointer (some ⟨g, 0, none⟩), .int .i64 m] W (RawPost W g v bs p er m) := fun W q => RRaw_any g v bs p er m W q hm0 hm1
  have hxx : (rawB bs p er m == rawB bs p er m) = true := by simp
  obtain ⟨R, hRR⟩ : ∃ R, rawB bs p er m = R := ⟨_, rfl⟩
  unfold QRawPost at hc
  unfold RawPost at hr
  rw [hp2, he2, hRR] at hc hr
  rw [hRR] at hxx
  have HC := Lib.hid hc
  have HR := Lib.hid hr
  have HXX := Lib.hid hxx
  have b0 : (d == 0) = false := by simp; omega
  have b1 : (d == 1) = false := by simp; omega
  have b2 : (d == 2) = false := by simp; omega
  have b3 : (d == 3) = false := by simp; omega
  have b4 : (d == 4) = false := by simp; omega
  clear hc hr hRR hxx
  obtain ⟨e3, he3⟩ : ∃ e3, endErr bs.length p2 e2 = e3 := ⟨_, rfl⟩
  obtain ⟨L, hL⟩ : ∃ L : Int, (bs.length : Int) - p2 = L := ⟨_, rfl⟩
  have HE3 := Lib.hid he3
  have HL := Lib.hid hL
  clear B0 hp2 he2 he3 hL
  go_enter Try.func16, Try.ntmps16
  go_wp2_with fail
  go_region_held3 (fun w' => w'.cell? ⟨w.heap.size, 2, none⟩ = some (.int .i64 m)) (go_keep)
    (first
      | (go_at_call 22; refine (HR.out _ ?_).mono ?_; exact (HB0.out.rd.drewN 1); rintro e w1 ⟨v1, rfl, o1, r1, f1⟩; obtain ⟨A1, c1, hv1, -, -⟩ := own_slice o1; subst hv1; have kc := Fr.cell f1 (p := ⟨w.heap.size, 2, none⟩) (u := .int .i64 m) (by simp) hgn; have R1 := Lib.hid r1; have F1 := Lib.hid (fr_undrew f1); have O1 := Lib.hid (own_undrew o1); clear r1 f1 o1)
      | (go_at_call 40; refine (HC.out _ ?_).mono ?_; exact (qd_after HB0.out F1.out); rintro e w2 ⟨v2, rfl, o2, q2, f2⟩; obtain ⟨A2, c2, hv2, -, -⟩ := own_slice o2; subst hv2; have kc2 := Fr.cell f2 (p := ⟨w.heap.size, 2, none⟩) (u := .int .i64 m) kc hhn; have Q2 := Lib.hid q2; have F2 := Lib.hid f2; have L2 := Lib.hid (Lies.of_own o2); have L1 := Lib.hid (Lies.of_own (own_fr O1.out f2 (fun j hj e => (by have hj2 := (World.ownsRow.lt O1.out j hj).1; simp at hj2; omega)))); clear q2 f2 o2)
      | (go_at_call 12; refine (Same_n A1 A2 c1 c2 R.length R.length R R w2 rfl rfl L1.out L2.out).mono ?_; rintro e w3 ⟨rfl, hw3⟩; subst hw3; rw [HXX.out]; have kc3 := kc2))
  go_wp2_with fail
  have hBN := both_next HB0.out R1.out F1.out Q2.out F2.out
  have HBN := Lib.hid hBN
  have qc0 := hBN.1.qd.c0
  have qc1 := hBN.1.qd.c1
  have qc2 := hBN.1.qd.c2
  have hle := hBN.1.rd.le
  have hsm := hBN.1.rd.small
  have hL := HL.out
  have HLE := Lib.hid (fun j => (by rw [← HL.out]; exact RLeft_any g v bs p2 e2 (w2.drewN j) (hBN.1.rd.drewN j) : Calls Try.prog 25 #[.pointer (some ⟨g, 0, none⟩)] (w2.drewN j) (QuietPost (w2.drewN j) (.int .i64 L))))
  have HEN := Lib.hid (fun j => (by rw [← HE3.out]; exact REnd_any g v bs p2 e2 (w2.drewN j) (hBN.1.rd.drewN j) : Calls Try.prog 23 #[.pointer (some ⟨g, 0, none⟩)] (w2.drewN j) (QuietPost (w2.drewN j) (.int .i64 e3))))
  have HQE := Lib.hid (fun j => (by rw [← HE3.out]; exact qEnd_any h A cap bs p2 e2 (w2.drewN j) (hBN.1.qd.drewN j) : Calls Try.prog 41 #[.pointer (some ⟨h, 0, none⟩)] (w2.drewN j) (QuietPost (w2.drewN j) (.int .i64 e3))))
  clear hBN
  go_quiet (first
    | (go_at_call 24; exact Calls.quiet_of_same ((RErr_any g v bs p2 e2 _ (HBN.out.1.rd.drewN _)).mono fun _ _ hh => ⟨hh.1, hh.2.symm⟩))
    | (go_at_call 28; exact Calls.quiet_of_same ((RAt_any g v bs p2 e2 _ (HBN.out.1.rd.drewN _)).mono fun _ _ hh => ⟨hh.1, hh.2.symm⟩))
    | (go_at_call 25; exact Calls.quiet_of (HLE.out _))
    | (go_at_call 23; exact Calls.quiet_of (HEN.out _))
    | (go_at_call 41; exact Calls.quiet_of (HQE.out _)))
  go_wp2_with fail
  go_ret
  exact ⟨rfl, ⟨HBN.out.1.rd.drewN _, HBN.out.1.qd.drewN _, HBN.out.1.ne, HBN.out.1.vne, HBN.out.1.ane⟩, hbf.trans (HBN.out.2.drewN _) (fun _ _ e => e)⟩

end Go.Proofs.Yticgmfnidhlkjaa

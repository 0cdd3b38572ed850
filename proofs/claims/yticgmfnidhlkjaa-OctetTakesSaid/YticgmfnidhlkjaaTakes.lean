/- What is proved: OctetTakes, for every slice of bytes and every list of a Reader's calls: whatever is read, one behind the other, is what the document says, with the first error and the place; the bytes stay, and the arguments read as before. Conditions: none beyond the row's own. -/
import Derived.Test.YticgmfnidhlkjaaTook
import Derived.Test.YticgmfnidhlkjaaArg
import Derived.Deep.Slices
import Derived.Deep.Fields
namespace Go.Proofs.Yticgmfnidhlkjaa.takes
open Go.ChangeShapes Go.WideShapes Go.ChangeAt Go.RowKit Go.Deep
open Go.Proofs.Yticgmfnidhlkjaa
set_option linter.unusedVariables false

/-- A call of a Reader. -/
structure TakeD where
  d : Int
  n : Int
  m : Int
def TakeD.ok (p : TakeD) : Prop := -9223372036854775808 ≤ p.d ∧ p.d ≤ 9223372036854775807 ∧ 0 ≤ p.n ∧ p.n < 18446744073709551616 ∧ -9223372036854775808 ≤ p.m ∧ p.m ≤ 9223372036854775807
instance : Inhabited TakeD := ⟨⟨0, 0, 0⟩⟩

def Cells (w : World) (b o k : Nat) (p : TakeD) : Prop := w.cell? ⟨b, o + k * 3, none⟩ = some (.int .i64 p.d) ∧ w.cell? ⟨b, o + k * 3 + 1, none⟩ = some (.int .u64 p.n) ∧ w.cell? ⟨b, o + k * 3 + 2, none⟩ = some (.int .i64 p.m)
theorem Cells.keep {w w' : World} {b o k : Nat} {p : TakeD} (h : Cells w b o k p) (f : Below w.heap.size w w') : Cells w' b o k p :=
  ⟨(f.cell (p := ⟨b, o + k * 3, none⟩) (World.block_lt_of_cell? w _ h.1)).trans h.1, (f.cell (p := ⟨b, o + k * 3 + 1, none⟩) (World.block_lt_of_cell? w _ h.2.1)).trans h.2.1, (f.cell (p := ⟨b, o + k * 3 + 2, none⟩) (World.block_lt_of_cell? w _ h.2.2)).trans h.2.2⟩
def TLies (w : World) (A : Option Addr) (l : List TakeD) : Prop := l = [] ∨ ∃ b o, A = some ⟨b, o, none⟩ ∧ ∀ k p, l[k]? = some p → Cells w b o k p

theorem one_drop {cs : List Value} {j : Nat} (h : j < cs.length) : (cs.drop j).take 1 = [cs[j]] := by
  rw [List.drop_eq_getElem_cons h]
  rfl
theorem open_takes {H : Type} {enc : TypeId × Value → H} {P : Program} {w : World} {base : Nat} {held : Bool} {t e : TypeId} {f0 f1 f2 : Field} {fuel : Nat} {cs : List Value} {x : DataW H × List MemPlace}
    (ht : P.underlying t = some (.slice e)) (he : P.underlying e = some (.struct #[f0, f1, f2])) (hone : oneCellFields P #[f0, f1, f2] = true) (hC : P.cellsOf e = 3)
    (u0 : P.underlying f0.type = some (.int .i64)) (u1 : P.underlying f1.type = some (.int .u64)) (u2 : P.underlying f2.type = some (.int .i64))
    (h : DataW.trod enc P w base (fun _ => true) held fuel t cs = some x) :
    ∃ A cap l, cs = [.slice A l.length cap] ∧ l.length ≤ cap ∧ cap ≤ maxLen ∧ TLies w A l ∧ (∀ p ∈ l, TakeD.ok p) := by
  rcases open_slice ht h with ⟨hcs, hx⟩ | ⟨a, len, cap, m, n, D, Pl, hcs, hb, hl, hm, hmm, hx, hi⟩
  · exact ⟨none, 0, [], hcs, by simp, Nat.zero_le _, .inl rfl, by simp⟩
  · have hmc : m = cap := by simpa using hmm
    have each : ∀ i, i < len → ∃ p : TakeD, p.ok ∧ w.cell? (a.add (i * 3)) = some (.int .i64 p.d) ∧ w.cell? (a.add (i * 3 + 1)) = some (.int .u64 p.n) ∧ w.cell? (a.add (i * 3 + 2)) = some (.int .i64 p.m) := by
      intro i hil
      obtain ⟨cs', hc, ht'⟩ := hi i (by omega)
      rw [hC] at hc
      obtain ⟨ys, n', hn', hy, hlen, hyl, hf⟩ := DataW.trod_struct he ht'
      obtain ⟨_, hcl, hat⟩ := World.cells?_some hc
      obtain ⟨o0, k0⟩ := hone_of hone 0 f0 rfl
      obtain ⟨o1, k1⟩ := hone_of hone 1 f1 rfl
      obtain ⟨o2, k2⟩ := hone_of hone 2 f2 rfl
      have g0 := hf 0 f0 rfl
      have g1 := hf 1 f1 rfl
      have g2 := hf 2 f2 rfl
      rw [o0, k0, one_drop (by omega)] at g0
      rw [o1, k1, one_drop (by omega)] at g1
      rw [o2, k2, one_drop (by omega)] at g2
      have hyl3 : ys.length = 3 := hyl
      match ys, hyl3 with
      | [y0, y1, y2], _ =>
        obtain ⟨d, e0, x0, w0⟩ := DataW.trod_int u0 g0
        obtain ⟨nn, e1, x1, w1⟩ := DataW.trod_int u1 g1
        obtain ⟨mm, e2, x2, w2⟩ := DataW.trod_int u2 g2
        have a0 := hat 0 (by omega)
        have a1 := hat 1 (by omega)
        have a2 := hat 2 (by omega)
        rw [add_add] at a0 a1 a2
        rw [List.getElem?_eq_getElem (by omega)] at a0 a1 a2
        have r0 : -9223372036854775808 ≤ d ∧ d ≤ 9223372036854775807 := by simpa [Lit.wf, IntKind.min, IntKind.max, IntKind.signed, IntKind.bits] using w0
        have r1 : 0 ≤ nn ∧ nn ≤ 18446744073709551615 := by simpa [Lit.wf, IntKind.min, IntKind.max, IntKind.signed, IntKind.bits] using w1
        have r2 : -9223372036854775808 ≤ mm ∧ mm ≤ 9223372036854775807 := by simpa [Lit.wf, IntKind.min, IntKind.max, IntKind.signed, IntKind.bits] using w2
        refine ⟨⟨d, nn, mm⟩, ⟨r0.1, r0.2, r1.1, by simp only; omega, r2.1, r2.2⟩, ?_, ?_, ?_⟩
        · rw [show i * 3 + 0 = i * 3 from rfl] at a0
          rw [a0]; simpa using e0
        · rw [a1]; simpa using e1
        · rw [a2]; simpa using e2
    obtain ⟨f, hfd⟩ := choose_lt each
    have hll : ((List.range len).map f).length = len := by simp
    refine ⟨some a, cap, (List.range len).map f, by rw [hll]; exact hcs, by rw [hll]; exact hl, hm, ?_, ?_⟩
    · rcases Nat.eq_zero_or_pos len with h0 | h0
      · subst h0
        exact .inl rfl
      · have hc0 := (hfd 0 h0).2.1
        obtain ⟨b, o, sp⟩ := a
        have hsp : sp = none := by simpa [Addr.add] using World.cell?_spot hc0
        subst hsp
        refine .inr ⟨b, o, rfl, fun k p hp => ?_⟩
        have hk : k < len := by
          have := (List.getElem?_eq_some_iff.1 hp).1
          rwa [hll] at this
        rw [List.getElem?_map, List.getElem?_range hk] at hp
        simp only [Option.map_some, Option.some.injEq] at hp
        subst hp
        obtain ⟨_, q0, q1, q2⟩ := hfd k hk
        rw [add_off] at q0 q1 q2
        exact ⟨q0, by rw [Nat.add_assoc]; exact q1, by rw [Nat.add_assoc]; exact q2⟩
    · intro p hp
      obtain ⟨i, hi', rfl⟩ := List.mem_map.1 hp
      exact (hfd i (by simpa using hi')).1

def AnyPost (w : World) (g h : Nat) (v : Value) (A : Option Addr) (cap : Nat) (bs : List UInt8) (e : Ending) (w' : World) : Prop :=
  e = .returned (.bool true) ∧ ∃ p er, Both w' g h v A cap bs p er ∧ Fr (fun k => k = g ∨ k = h) w w'
theorem took_any (g h : Nat) (v : Value) (A : Option Addr) (cap : Nat) (bs : List UInt8) (p : Nat) (er : Int) (t : TakeD) (ht : t.ok) (w : World) (b : Both w g h v A cap bs p er) :
    Calls Try.prog 16 #[.pointer (some ⟨g, 0, none⟩), .pointer (some ⟨h, 0, none⟩), .agg #[.int .i64 t.d, .int .u64 t.n, .int .i64 t.m]] w (AnyPost w g h v A cap bs) := by
  obtain ⟨d, n, m⟩ := t
  obtain ⟨_, _, n0, n1, m0, m1⟩ := ht
  simp only at n0 n1 m0 m1 ⊢
  have fin : ∀ p2 e2 e w', TookPost w g h v A cap bs p2 e2 e w' → AnyPost w g h v A cap bs e w' := fun p2 e2 e w' hh => ⟨hh.1, p2, e2, hh.2.1, hh.2.2⟩
  by_cases e0 : d = 0
  · subst e0; exact (took_0 g h v A cap bs p _ er _ n m w b rfl rfl).mono (fun e w' hh => fin _ _ e w' hh)
  · by_cases e1 : d = 1
    · subst e1; exact (took_1 g h v A cap bs p _ er _ n m w b rfl rfl).mono (fun e w' hh => fin _ _ e w' hh)
    · by_cases e2 : d = 2
      · subst e2; exact (took_2 g h v A cap bs p _ er _ n m w b rfl rfl).mono (fun e w' hh => fin _ _ e w' hh)
      · by_cases e3 : d = 3
        · subst e3; exact (took_3 g h v A cap bs p _ er _ n m w b n0 n1 rfl rfl).mono (fun e w' hh => fin _ _ e w' hh)
        · by_cases e4 : d = 4
          · subst e4; exact (took_4 g h v A cap bs p _ er _ n m w b m0 m1 rfl rfl).mono (fun e w' hh => fin _ _ e w' hh)
          · exact (took_5 g h v A cap bs p _ er _ n m d w b m0 m1 ⟨e0, e1, e2, e3, e4⟩ rfl rfl).mono (fun e w' hh => fin _ _ e w' hh)

set_option maxHeartbeats 4000000 in
set_option maxRecDepth 100000 in
theorem walk (A : Option Addr) (cap : Nat) (bs : List UInt8) (AL : Option Addr) (capL : Nat) (l : List TakeD) (w : World) (hl : Lies w A (bytesV bs)) (hcap : bs.length ≤ cap) (hb : bs.length ≤ 140737488351232)
    (htl : TLies w AL l) (hcl : l.length ≤ capL) (hcm : capL ≤ maxLen) (hok : ∀ p ∈ l, p.ok) :
    Calls Try.prog 4 #[.slice A bs.length cap, .slice AL l.length capL] w fun e w' => e = .returned (.bool true) ∧ Below w.heap.size w w' := by
  have hane : ∀ ad, A = some ad → bs ≠ [] → ad.block < w.heap.size := by
    intro ad had hbs
    obtain ⟨b, o, hA⟩ := lies_at hl hbs
    have hpos : 0 < bs.length := by
      cases bs with
      | nil => exact absurd rfl hbs
      | cons _ _ => simp
    rw [hA] at had hl
    injection had with had
    subst had
    exact World.block_lt_of_cell? w _ (lies_byte hl hpos)
  have HAN := Lib.hid hane
  have HL := Lib.hid hl
  have HTL := Lib.hid htl
  have HOK := Lib.hid hok
  have hlm : (l.length : Int) ≤ 9223372036854775807 := by unfold maxLen at hcm; omega
  clear hl htl hok hane
  obtain ⟨i0, hi, hz0, hz1, hz2⟩ := info_parts info_u8
  go_enter Try.func4, Try.ntmps4
  go_wp2_with (at_builtin; refine wpList_append_row _ rfl (.tmp 9) (.tmp 10) 25 25 rfl w.heap.size 5 i0 (.int .u8 0) 1 1 Try.underlying25 hi hz0 hz1 hz2 rfl _ 0 [] rfl (World.ownsRow_made w #[] 0 (Nat.le_refl _) (Nat.zero_le _) rfl) _ bs.length (bytesV bs) rfl (by have hs := (HL.out.below ((Below.refl _ w).alloc (Nat.le_refl _) (.cells #[] 5))).src Try.underlying25 (bytesV_one bs) cap; rw [bytesV_length] at hs; exact hs) (by unfold maxLen; omega) (by omega) (by simp) ?_)
  intro vo w4 oo g4 at4
  obtain ⟨Ao, co, hvo, -, lo, -⟩ := own_lies oo
  subst hvo
  have B4 : Below w.heap.size w w4 := by
    refine ((Below.refl _ _).alloc (Nat.le_refl _) (.cells #[] 5)).grown g4 (by simp) (fun k hk => ?_)
    simp [Value.ownBlock] at hk; omega
  have S4 : w.heap.size ≤ w4.heap.size := B4.size
  have OO := Lib.hid oo
  have LO := Lib.hid lo
  clear oo lo at4 g4
  go_wp2_with (go_at_call 15; refine (NewReader_any Ao co bs _ LO.out (by omega)).mono ?_; rintro e w5 ⟨g, v, rfl, hg, hv, rd, b5⟩; have RD := Lib.hid rd; have S5 : w4.heap.size ≤ w5.heap.size := b5.size; have B5 := Lib.hid b5; have HV := Lib.hid hv; clear rd hv b5)
  have hgl : g < w5.heap.size := RD.out.whole.lt
  have F5 : Fr (fun k => w.heap.size ≤ k) w w5 := (Fr.of_below B4).then_below B5.out
  have OO5 := Lib.hid (own_fr OO.out (Fr.of_below (S := fun _ => False) B5.out) (fun _ _ e => e))
  have hB : Both (w5.alloc (.cells #[.slice A bs.length cap, .int .i64 0, .int .i64 0] 41)) g w5.heap.size v A cap bs 0 0 :=
    ⟨RD.out.below ((Below.refl _ _).alloc (Nat.le_refl _) _), ⟨Whole.new _ _ _, HL.out.below ((F5.alloc _).below (fun i hi => by omega)), Nat.zero_le _, by omega, hcap, fun ad e hbs => by have := HAN.out ad e hbs; omega⟩, by omega, fun j hj => by have := own_lt RD.out.own hj; omega, fun ad e hbs => by have := HAN.out ad e hbs; omega⟩
  have HB := Lib.hid hB
  have HF5 := Lib.hid (F5.alloc (.cells #[.slice A bs.length cap, .int .i64 0, .int .i64 0] 41))
  have OO6 := Lib.hid (OO5.out.alloc (.cells #[.slice A bs.length cap, .int .i64 0, .int .i64 0] 41))
  have FO : ∀ k, (Value.slice Ao bs.length co).ownBlock = some k → k < w4.heap.size := fun k hk => own_lt OO.out hk
  have HFO := Lib.hid FO
  clear hB F5 FO
  go_loopw [8] (fun i wr => ∃ (k p : Nat) (er : Int), k ≤ l.length ∧ i = .int .i64 k ∧ (Both wr g w5.heap.size v A cap bs p er ∧ wr.ownsRow w.heap.size 5 1 (.slice Ao bs.length co) bs.length (bytesV bs)) ∧ Fr (fun k => w.heap.size ≤ k) w wr) (fun i _ => l.length - (intOf i).toNat)
  case atStart => exact ⟨0, 0, 0, Nat.zero_le _, rfl, ⟨HB.out, OO6.out⟩, HF5.out⟩
  case round =>
    obtain ⟨k, p, er, hk, rfl, hbo, hfr⟩ := hrel
    have HBO := Lib.hid hbo
    have HFR := Lib.hid hfr
    clear hbo hfr
    by_cases hlt : k < l.length
    · obtain ⟨t, ht⟩ : ∃ t, l[k]? = some t := ⟨l[k], List.getElem?_eq_getElem hlt⟩
      have htok := Lib.hid (HOK.out t (List.mem_of_getElem? ht))
      have hcells : ∃ b o, AL = some ⟨b, o, none⟩ ∧ Cells w b o k t := by
        rcases HTL.out with h0 | ⟨b, o, hA, hc⟩
        · subst h0; simp at hlt
        · exact ⟨b, o, hA, hc k t ht⟩
      obtain ⟨b, o, hA, hcw⟩ := hcells
      subst hA
      obtain ⟨c0, c1, c2⟩ := hcw.keep (HFR.out.below (fun i hi => by omega))
      have hk0 : (0 : Int) ≤ (k : Int) := by omega
      have hk1 : (k : Int) < l.length := by omega
      clear ht hcw
      go_wp2_with (go_at_call 16; refine (took_any g w5.heap.size v A cap bs p er t htok.out _ HBO.out.1).mono ?_; rintro e w7 ⟨rfl, p2, e2, hb7, hf7⟩)
      have hO7 := own_fr HBO.out.2 hf7 (fun j hj e => by have := HFO.out j hj; omega)
      have hF7 : Fr (fun k => w.heap.size ≤ k) w w7 := HFR.out.trans hf7 (fun i hi e => by omega)
      go_roundw
      case rel => exact ⟨k + 1, p2, e2, by omega, by go_num, ⟨hb7, hO7⟩, hF7⟩
      case measure => simp [intOf]; omega
    · obtain rfl : k = l.length := by omega
      have hs := Same_n Ao A co cap bs.length bs.length bs bs wr rfl rfl (Lies.of_own HBO.out.2) (HL.out.below (HFR.out.below (fun i hi => by omega)))
      rw [show (bs == bs) = true by simp] at hs
      have HS := Lib.hid hs
      clear hs
      go_wp2_with (first
        | (go_at_call 12; refine HS.out.mono ?_; rintro e w8 ⟨rfl, rfl⟩)
        | (go_at_call 14; refine (works_any _).mono ?_; rintro e w9 ⟨rfl, b9⟩))
      go_ret
      exact ⟨rfl, (HFR.out.then_below b9).below (fun i hi => by omega)⟩

theorem own_knob : ownKnob Try.prog.godebug = none := by kernel_rfl
theorem laidOut : laidOutB Try.prog = true := by kernel_rfl
theorem bytes_u8 : Try.prog.bytesOf 5 = 1 := by kernel_rfl

set_option maxRecDepth 100000 in
theorem lifted (os : Os) (started : os.Started) (H : Type) (enc : TypeId × Value → H) :
    ReturnsInHanded {} Try.checked os 4 .any (Rows.octetTakesSpec.pre6 enc Try.prog Try.f4 Rows.octetTakesRow.domain false) (Rows.octetTakesSpec.post enc Try.prog Try.f4 false true false false) := by
  refine returnsInHanded_of_change_sized (C := Try.checked) own_knob started (by kernel_rfl) Try.func4
    (ChangeSpec.witness6 (enc := enc) (C := Try.checked) false ⟨#[], #[.slice none 0 0, .slice none 0 0], []⟩ 8 (by kernel_rfl) (by kernel_rfl) (by kernel_rfl) (by kernel_rfl)) ?_
  intro W base args ds gs before hval0 hW hcnd hsz0 _
  have hval : ∀ (j : Nat) t v, Try.f4.params[j]? = some t → args[j]? = some v → Value.okWide Try.prog W .any base t v := hval0
  have hsz : (DataW.weightsEach Try.prog (Try.f4.params.toList ++ Rows.octetTakesSpec.plain.varTypes Try.prog) (ds ++ gs)).all (· ≤ reachBytes) = true := hsz0
  have hW' := hW
  obtain ⟨p, q, hA0, hV, rfl, hfz, hnd⟩ := hW
  have hA : DataW.TrodAll enc Try.prog W 0 (fun _ => true) true Try.f4.params.toList args.toList ds p := hA0
  rw [Try.params4] at hA hval hsz
  obtain ⟨v0, vs0, d0, ds0, p0, q0, hargs, rfl, rfl, h0, r0⟩ := trodAll_cons hA
  obtain ⟨v1, vs1, d1, ds1, p1, q1, rfl, rfl, rfl, h1, r1⟩ := trodAll_cons r0
  obtain ⟨rfl, rfl, rfl⟩ := trodAll_nil r1
  obtain rfl : args = #[v0, v1] := by cases args; simp_all
  obtain ⟨rfl, rfl⟩ := trodVars_none hV
  obtain ⟨a0, len0, cap0, rfl⟩ := okWide_slice Try.underlying25 (hval 0 25 v0 rfl rfl)
  obtain ⟨a1, len1, cap1, rfl⟩ := okWide_slice Try.underlying36 (hval 1 36 v1 rfl rfl)
  have k0 := h0
  have k1 := h1
  have lt0 : ∀ x ∈ p0, x.block < W.heap.size := by obtain ⟨m, hm⟩ := k0; exact DataW.trod_lt m _ _ _ hm
  have lt1 : ∀ x ∈ p1, x.block < W.heap.size := by obtain ⟨m, hm⟩ := k1; exact DataW.trod_lt m _ _ _ hm
  obtain ⟨fuel, hf⟩ := h0
  obtain ⟨A, cap, bs, hcs, hcap, hl, hx⟩ := open_bytes Try.underlying25 Try.underlying5 (by kernel_rfl) hf
  simp [Value.cells] at hcs
  obtain ⟨rfl, rfl, rfl⟩ := hcs
  obtain ⟨fuel1, hf1⟩ := h1
  obtain ⟨AL, capL, l, hcs1, hcl, hcm, htl, hok⟩ := open_takes Try.underlying36 Try.underlying44 (by kernel_rfl) (by kernel_rfl) Try.underlying3 Try.underlying27 Try.underlying3 hf1
  simp [Value.cells] at hcs1
  obtain ⟨rfl, rfl, rfl⟩ := hcs1
  have hb : bs.length ≤ 140737488351232 := by
    rcases hx with ⟨_, h⟩ | ⟨elems, spare, he, h⟩
    · omega
    · have he' : d0 = .slice elems spare := he
      subst he'
      have := sized_slice hsz (j := 0) (t := 25) (e := 5) rfl rfl Try.underlying25
      rw [bytes_u8] at this
      simp only [reachBytes] at this
      omega
  clear hA0 hval0
  refine (walk a0 cap0 bs a1 cap1 l W hl hcap hb htl hcl hcm hok).mono fun e W' ⟨he, bel⟩ => ?_
  subst he
  exact ⟨_, rfl, _, _, _, [], _, [], hW', trodAll_mk1 (shut_bool Try.underlying4 _), (trodAll_cons_mk (Below.trod laidOut (by kernel_rfl) (of_decide_eq_true (by kernel_rfl)) k0 bel lt0) (trodAll_cons_mk (Below.trod laidOut (by kernel_rfl) (of_decide_eq_true (by kernel_rfl)) k1 bel lt1) trodAll_mk0)), rfl, bel.frame _, fun h => by cases h⟩

theorem over : Rows.octetTakesRow.holds Try.pinned (OpenSpec.ofChange Rows.octetTakesSpec) :=
  OpenClaim.holds_of_wide 4 Try.f4 rfl rfl rfl rfl rfl rfl rfl ⟨rfl, rfl, rfl, rfl, rfl⟩ rfl rfl rfl rfl rfl (by kernel_rfl) Try.func4 (by kernel_rfl)
    (of_decide_eq_true (by kernel_rfl)) (by unfold Func.isWrapper; first | (rw [if_pos (by decide +kernel)]; kernel_rfl) | (rw [if_neg (by decide +kernel)]; exact ⟨rfl, rfl⟩))
    (fun os started H enc _ => lifted os started H enc)

/-- The statement. -/
theorem proved : Rows.OctetTakesSaid := over
#print axioms proved
end Go.Proofs.Yticgmfnidhlkjaa.takes

/- What is proved: OctetLays, for every list of a Writer's calls (of bulk at most 1048576): what is laid is the document's bytes, as many as are told; the list reads as before. Conditions: the bulk's bound of the statement. -/
import Derived.Test.YticgmfnidhlkjaaPua
import Derived.Test.YticgmfnidhlkjaaLai
namespace Go.Proofs.Yticgmfnidhlkjaa.lays
open Go.ChangeShapes Go.WideShapes Go.ChangeAt Go.RowKit
open Go.Proofs.Yticgmfnidhlkjaa
set_option linter.unusedVariables false

/-- What stands at the head of a round: the writer and the wanted bytes, in rows of their own. -/
structure Inv (w : World) (g : Nat) (X : List UInt8) (v vw : Value) (wr : World) : Prop where
  wri : Wr wr g v X
  wan : wr.ownsRow w.heap.size 5 1 vw X.length (bytesV X)
  apart : ∀ j, v.ownBlock = some j → vw.ownBlock ≠ some j
  new : ∀ j, v.ownBlock = some j → w.heap.size ≤ j
  bel : Below w.heap.size w wr

theorem inv_lay {w wr w2 : World} {g : Nat} {X Y : List UInt8} {v v2 vw : Value} (h : Inv w g X v vw wr) (hg : w.heap.size ≤ g) (s2 : WSt wr g v w2 v2) :
    w2.ownsRow w.heap.size 5 1 vw X.length (bytesV X) ∧ (∀ j, v2.ownBlock = some j → vw.ownBlock ≠ some j) ∧ (∀ j, v2.ownBlock = some j → w.heap.size ≤ j) ∧ Below w.heap.size w w2 := by
  have hne : vw.ownBlock ≠ some g := own_apart h.wan h.wri.1 (by decide)
  have hbw := h.bel.size
  refine ⟨own_fr h.wan s2.fr (fun j hj e => ?_), fun j hj => ?_, fun j hj => ?_, ?_⟩
  · rcases e with e | e
    · subst e; exact hne hj
    · exact h.apart j e hj
  · rcases s2.own with e | ⟨b, e, hb⟩
    · rw [e] at hj; exact h.apart j hj
    · rw [e] at hj
      injection hj with hj
      intro e2
      have := own_lt h.wan e2
      omega
  · rcases s2.own with e | ⟨b, e, hb⟩
    · rw [e] at hj; exact h.new j hj
    · rw [e] at hj
      injection hj with hj
      omega
  · exact ((Fr.of_below (S := fun k => w.heap.size ≤ k) h.bel).trans s2.fr (fun i hi e => by
      rcases e with e | e
      · omega
      · have := h.new i e; omega)).below (fun i hi => by omega)

theorem inv_app {w w2 w3 w4 : World} {g : Nat} {X Y : List UInt8} {v2 vw v4 : Value} (r2 : Wr w2 g v2 (X ++ Y)) (hg : w.heap.size ≤ g) (a1 : w2.ownsRow w.heap.size 5 1 vw X.length (bytesV X)) (a2 : ∀ j, v2.ownBlock = some j → vw.ownBlock ≠ some j)
    (a3 : ∀ j, v2.ownBlock = some j → w.heap.size ≤ j) (a4 : Below w.heap.size w w2) (b3 : Below w2.heap.size w2 w3) (o4 : w4.ownsRow w.heap.size 5 1 v4 (X ++ Y).length (bytesV (X ++ Y)))
    (g4 : w3.grownBy w4 vw.ownBlock) (at4 : v4.ownBlock = vw.ownBlock ∨ v4.ownBlock = some w3.heap.size) : Inv w g (X ++ Y) v2 v4 w4 := by
  have hne : vw.ownBlock ≠ some g := own_apart a1 r2.1 (by decide)
  have hbs := b3.size
  have hb2 := a4.size
  refine ⟨(r2.below b3).fr ((Fr.refl (fun k => vw.ownBlock = some k) w3).grown g4 (fun k hk _ => hk)) hne (fun k hk => a2 k hk), o4, fun j hj => ?_, a3, ?_⟩
  · rcases at4 with e | e
    · rw [e]; exact a2 j hj
    · rw [e]
      intro e2
      injection e2 with e2
      have := own_lt r2.2 hj
      omega
  · exact ((Fr.then_below (Fr.of_below (S := fun k => w.heap.size ≤ k) a4) b3).grown g4 (fun k hk _ => (World.ownsRow.lt a1 k hk).1)).below (fun i hi => by omega)

def Cells (w : World) (b o k : Nat) (p : PutD) : Prop := w.cell? ⟨b, o + k * 3, none⟩ = some (.int .i64 p.d) ∧ w.cell? ⟨b, o + k * 3 + 1, none⟩ = some (.int .u64 p.n) ∧ w.cell? ⟨b, o + k * 3 + 2, none⟩ = some (.string p.s)
theorem Cells.keep {w w' : World} {b o k : Nat} {p : PutD} (h : Cells w b o k p) (f : Below w.heap.size w w') : Cells w' b o k p :=
  ⟨(f.cell (p := ⟨b, o + k * 3, none⟩) (World.block_lt_of_cell? w _ h.1)).trans h.1, (f.cell (p := ⟨b, o + k * 3 + 1, none⟩) (World.block_lt_of_cell? w _ h.2.1)).trans h.2.1, (f.cell (p := ⟨b, o + k * 3 + 2, none⟩) (World.block_lt_of_cell? w _ h.2.2)).trans h.2.2⟩

set_option maxHeartbeats 4000000 in
set_option maxRecDepth 100000 in
theorem walk (A : Option Addr) (cap : Nat) (l : List PutD) (w : World) (hl : PLies w A l) (hcap : l.length ≤ cap) (htot : totB l ≤ 100000000) (hlen : l.length ≤ 100000000) (hok : ∀ p ∈ l, p.ok) :
    Calls Try.prog 3 #[.slice A l.length cap] w fun e w' => e = .returned (.bool true) ∧ Below w.heap.size w w' := by
  have HL := Lib.hid hl
  have HOK := Lib.hid hok
  have HT := laidAll_length l
  clear hl hok
  obtain ⟨i0, hi, hz0, hz1, hz2⟩ := info_parts info_u8
  go_enter Try.func3, Try.ntmps3
  go_wp2_with (go_at_call 8; refine (NewWriter_any _).mono ?_; rintro e w1 ⟨rfl, h1⟩; subst h1)
  go_loopw [4, 5] (fun s4 i wr => ∃ (k : Nat) (v1 : Value), k ≤ l.length ∧ i = .int .i64 k ∧ Inv w w.heap.size (laidAll (l.take k)) v1 s4 wr) (fun _ i _ => l.length - (intOf i).toNat)
  case atStart => exact ⟨0, .slice none 0 0, Nat.zero_le _, rfl, ⟨Wr.new w, World.ownsRow_nil _ _ _ _, fun j hj => (by cases hj), fun j hj => (by cases hj), (Below.refl _ _).alloc (Nat.le_refl _) _⟩⟩
  case round =>
    obtain ⟨k, v1, hk, rfl, hinv⟩ := hrel
    have HI := Lib.hid hinv
    obtain ⟨Aw, cw, hvw, -, -⟩ := own_slice hinv.wan
    subst hvw
    clear hinv
    have hbs := HI.out.bel.size
    by_cases hlt : k < l.length
    · obtain ⟨p, hp⟩ : ∃ p, l[k]? = some p := ⟨l[k], List.getElem?_eq_getElem hlt⟩
      obtain ⟨d1, d2, d3, d4, d5⟩ := HOK.out p (List.mem_of_getElem? hp)
      have hk0 : (0 : Int) ≤ (k : Int) := by omega
      have hk1 : (k : Int) < l.length := by omega
      obtain ⟨b, o, hA⟩ := HL.out.addr hlt
      subst hA
      have hcw : Cells w b o k p := HL.out.cells hp
      have hsum := totB_le hp
      have hll := laidB_length p.d p.n p.s.data.toList
      have hsl : p.s.data.toList.length = p.s.size := by rw [Array.length_toList]; rfl
      rw [hsl] at hll
      have HSN := Lib.hid (laidAll_snoc hp)
      obtain ⟨X, hX⟩ : ∃ X, laidAll (l.take k) = X := ⟨_, rfl⟩
      rw [hX] at HSN HI hsum
      have HX := Lib.hid hX
      obtain ⟨pd, pn, ps⟩ := p
      simp only at d1 d2 d3 d4 d5 hsum hll
      have HCW := Lib.hid hcw
      obtain ⟨c0, c1, c2⟩ := hcw.keep HI.out.bel
      simp only at c0 c1 c2
      obtain ⟨Y, hY⟩ : ∃ Y, laidB pd pn ps.data.toList = Y := ⟨_, rfl⟩
      have HSN2 : Hid (laidAll (l.take (k + 1)) = X ++ Y) := Lib.hid (by rw [HSN.out, ← hY]; rfl)
      have HY := Lib.hid hY
      rw [hY] at hll
      obtain ⟨N, hN⟩ : ∃ N, (X ++ Y).length = N := ⟨_, rfl⟩
      have hNb : N ≤ 100000000 := by rw [← hN, List.length_append]; omega
      have HN := Lib.hid hN
      have HN2 := Lib.hid (show X.length + Y.length = N by rw [← hN, List.length_append])
      clear hp hX hY hN HSN hsl hcw
      go_wp2_with (first
        | (go_at_call 9; refine (lay_any _ _ _ _ _ _ _ HI.out.wri d3 d4 (by omega)).mono ?_; rintro e w2 ⟨rfl, v2, r2, s2⟩; rw [HY.out] at r2; have HA := Lib.hid (inv_lay (Y := Y) HI.out (Nat.le_refl _) s2); have HR2 := Lib.hid r2; obtain ⟨c02, c12, c22⟩ := HCW.out.keep HA.out.2.2.2; simp only at c02 c12 c22; have hsz2 := s2.fr.size; clear r2 s2)
        | (go_at_call 10; refine (laid_any _ _ _ _ d3 d4 (by omega)).mono ?_; rintro e w3 ⟨A3, cc3, rfl, l3, b3⟩; rw [HY.out] at l3; have hsrc := l3.src Try.underlying25 (bytesV_one _) cc3; rw [bytesV_length] at hsrc; rw [HY.out]; have HSR := Lib.hid hsrc; have HB3 := Lib.hid b3; have O3 := Lib.hid (own_fr HA.out.1 (Fr.of_below (S := fun _ => False) b3) (fun _ _ e => e)); have hsz3 := b3.size; clear l3 b3 hsrc)
        | (at_builtin; refine wpList_append_row _ rfl (.tmp 19) (.tmp 24) 25 25 rfl w.heap.size 5 i0 (.int .u8 0) 1 1 Try.underlying25 hi hz0 hz1 hz2 rfl _ X.length (bytesV X) (by first | rfl | (rw [HX.out]; rfl)) O3.out _ Y.length (bytesV Y) rfl HSR.out (by unfold maxLen; omega) (by omega) (by omega) ?_))
      intro v4 w4 o4 g4 at4
      rw [HN2.out, ← bytesV_append] at o4
      have HI4 := Lib.hid (inv_app HR2.out (Nat.le_refl _) HA.out.1 HA.out.2.1 HA.out.2.2.1 HA.out.2.2.2 HB3.out (by rw [HN.out]; exact o4) g4 at4)
      obtain ⟨A4, c4, hv4, -, -⟩ := own_slice o4
      subst hv4
      clear o4 g4 at4 c0 c1 c2 c02 c12 c22
      go_wp2_with (go_at_call 11; refine (WLen_any _ _ _ _ HI4.out.wri).mono ?_; rintro e w5 ⟨rfl, rfl⟩; rw [HN.out])
      go_roundw
      case rel => exact ⟨k + 1, v2, by omega, by go_num, by rw [HSN2.out]; exact HI4.out⟩
      case measure => simp [intOf]; omega
    · obtain rfl : k = l.length := by omega
      rw [List.take_length] at HI
      obtain ⟨X, hX⟩ : ∃ X, laidAll l = X := ⟨_, rfl⟩
      rw [hX] at HI HT
      have HLW := Lib.hid (Lies.of_own HI.out.wan)
      have HXX := Lib.hid (show (X == X) = true by simp)
      have HX := Lib.hid hX
      clear hX
      go_wp2_with (first
        | (go_at_call 13; refine (WBytes_any _ _ _ _ HI.out.wri (by omega)).mono ?_; rintro e w3 ⟨v3, rfl, o3, b3⟩; obtain ⟨A3, c3, hv3, -, l3, -⟩ := own_lies o3; subst hv3; have L3 := Lib.hid l3; have B3 := Lib.hid b3; clear l3 o3 b3)
        | (go_at_call 12; refine (Same_n A3 Aw c3 cw X.length _ X X w3 rfl (by first | rfl | rw [HX.out] | rw [List.take_length, HX.out]) L3.out (HLW.out.below B3.out)).mono ?_; rintro e w4 ⟨rfl, rfl⟩; rw [HXX.out])
        | (go_at_call 14; refine (works_any _).mono ?_; rintro e w5 ⟨rfl, b5⟩))
      go_ret
      exact ⟨rfl, (Fr.then_below (Fr.then_below (Fr.of_below (S := fun k => w.heap.size ≤ k) HI.out.bel) B3.out) b5).below (fun i hi => by omega)⟩

theorem own_knob : ownKnob Try.prog.godebug = none := by kernel_rfl
theorem laidOut : laidOutB Try.prog = true := by kernel_rfl

theorem contract (H : Type) (enc : TypeId × Value → H) (W : World) (base : Nat) (args : Array Value) (ds gs : List (DataW H)) (before : List MemPlace)
    (hval : ∀ (j : Nat) t v, Try.f3.params[j]? = some t → args[j]? = some v → Value.okWide Try.prog W .any base t v)
    (hW : DataW.Whole enc Try.prog Try.f3.params.toList Rows.octetLaysSpec.vars false W args.toList ds gs before) (hk : Rows.uptoSmall H (ds ++ gs) = true) :
    Calls Try.prog 3 args W fun e W' => ∃ v, e = .returned v ∧ Rows.octetLaysSpec.post enc Try.prog Try.f3 false true false false W args v W' := by
  have hW' := hW
  obtain ⟨p, q, hA0, hV, rfl, hfz, hnd⟩ := hW
  have hA : DataW.TrodAll enc Try.prog W 0 (fun _ => true) true Try.f3.params.toList args.toList ds p := hA0
  rw [Try.params3] at hA hval
  obtain ⟨v0, vs0, d0, ds0, p0, q0, hargs, rfl, rfl, h0, r0⟩ := trodAll_cons hA
  obtain ⟨rfl, rfl, rfl⟩ := trodAll_nil r0
  obtain rfl : args = #[v0] := by cases args; simp_all
  obtain ⟨rfl, rfl⟩ := trodVars_none hV
  obtain ⟨a0, len0, cap0, rfl⟩ := okWide_slice Try.underlying22 (hval 0 22 v0 rfl rfl)
  have k0 := h0
  have lt0 : ∀ x ∈ p0, x.block < W.heap.size := by obtain ⟨m, hm⟩ := k0; exact DataW.trod_lt m _ _ _ hm
  obtain ⟨fuel, hf⟩ := h0
  obtain ⟨A, cap, l, hcs, hcap, hl, hok, hx⟩ := open_puts Try.underlying22 Try.underlying29 (by kernel_rfl) (by kernel_rfl) Try.underlying3 Try.underlying27 Try.underlying9 hf
  simp [Value.cells] at hcs
  obtain ⟨rfl, rfl, rfl⟩ := hcs
  have hb : totB l ≤ 100000000 ∧ l.length ≤ 100000000 := by
    rcases hx with ⟨_, h⟩ | ⟨spare, he⟩
    · subst h; simp [totB]
    · have he' : d0 = .slice (l.map PutD.datum) spare := he
      subst he'
      exact upto_puts hk
  clear hA0
  refine (walk a0 cap0 l W hl hcap hb.1 hb.2 hok).mono fun e W' ⟨he, bel⟩ => ?_
  subst he
  exact ⟨_, rfl, _, _, _, [], _, [], hW', trodAll_mk1 (shut_bool Try.underlying4 _), (trodAll_cons_mk (Below.trod laidOut (by kernel_rfl) (of_decide_eq_true (by kernel_rfl)) k0 bel lt0) trodAll_mk0), rfl, bel.frame _, fun h => by cases h⟩

set_option maxRecDepth 100000 in
theorem lifted (os : Os) (started : os.Started) (H : Type) (enc : TypeId × Value → H) (F : Stop.Interp) :
    ReturnsInHanded {} Try.checked os 3 .any ((Rows.OpenSpec.upto Rows.octetLaysSpec).pre6 enc Try.prog Try.f3 Rows.octetLaysUptoRow.domain false) (((Rows.OpenSpec.upto Rows.octetLaysSpec).at F).post enc Try.prog Try.f3 false true false false) := by
  refine returnsInHanded_of_cond (C := Try.checked) (s := Rows.OpenSpec.upto Rows.octetLaysSpec) (k := Rows.uptoSmall) rfl own_knob started (by kernel_rfl) Try.func3
    (OpenSpec.witness (enc := enc) (C := Try.checked) (s := Rows.OpenSpec.upto Rows.octetLaysSpec) (k := Rows.uptoSmall) rfl false ⟨#[], #[.slice none 0 0], []⟩ 8 (by kernel_rfl) (by kernel_rfl) (by kernel_rfl)
      (x := ([.nil], [], [])) (by kernel_rfl) rfl (by kernel_rfl)) ?_
  intro W base args ds gs before hval hW _ hk _
  exact contract H enc W base args ds gs before hval hW hk

/-- The statement. -/
theorem proved : Rows.OctetLaysUptoSaid :=
  OpenClaim.holds_of_cond 3 Try.f3 rfl rfl rfl rfl rfl rfl rfl ⟨rfl, rfl, rfl, rfl, rfl⟩ rfl rfl rfl rfl rfl (by kernel_rfl) Try.func3 (by kernel_rfl)
    (of_decide_eq_true (by kernel_rfl)) (by unfold Func.isWrapper; first | (rw [if_pos (by decide +kernel)]; kernel_rfl) | (rw [if_neg (by decide +kernel)]; exact ⟨rfl, rfl⟩))
    (fun os started H enc _ F => lifted os started H enc F)
#print axioms proved
end Go.Proofs.Yticgmfnidhlkjaa.lays


/- What is proved: texts that stand one behind the other: Dem. Conditions: each theorem names its own. -/
import Derived.Laws.OwnMore
import Derived.Deep.Cut
import Derived.Test.YtkaeoflgnnlbeaaGreatDoorQDeg
import Derived.Test.YtkaeoflgnnlbeaaGreatDoorQDee
import Derived.Test.YtkaeoflgnnlbeaaGreatDoorQDej
/- What is proved: what the walks of this seat need of layers below, merged out of the texts Dem (of each just what is needed). Conditions: each theorem names its own. -/
/- What is proved: a new byte behind ops of the call's own, by the program. Conditions: the ops are the call's own, the last one's bytes too. -/
namespace Go.Proofs.YtkaeoflgnnlbeaaGreatDoor
open Go.RowKit
set_option linter.unusedVariables false
/-- Ops that the call is making: their row is its own, and the last one's bytes too, if they are new. -/
structure Mk (w0 w : World) (v : Value) (ps : List POp) : Prop where
  own : w.ownsRow w0.heap.size 170 4 v ps.length (flatP ps)
  ok : ∀ p ∈ ps, p.Ok w
  last : ∀ init p, ps = init ++ [p] → p.o.copy = false → w.ownsRow w0.heap.size 5 1 (.slice p.B p.o.b.length p.c) p.o.b.length (bytesV p.o.b) ∧ ∀ q ∈ init, ∀ ad bd, q.B = some ad → p.B = some bd → ad.block ≠ bd.block
  old : ∀ p ∈ ps, ∀ ad, p.B = some ad → ad.block < w.heap.size ∧ v.ownBlock ≠ some ad.block ∧ w0.heap.size ≤ ad.block
theorem Mk.nil (w : World) : Mk w w (.slice none 0 0) [] := ⟨World.ownsRow_nil _ _ _ _, by simp, fun init p h => by simp at h, by simp⟩
theorem Mk.fr {w0 w w' : World} {v : Value} {ps : List POp} (h : Mk w0 w v ps) (f : Fr (fun _ => False) w w') : Mk w0 w' v ps :=
  ⟨own_fr h.own f (fun _ _ e => e), fun p hp => (h.ok p hp).fr f, fun init p e hc => ⟨own_fr (h.last init p e hc).1 f (fun _ _ e => e), (h.last init p e hc).2⟩, fun p hp ad hA => ⟨Nat.lt_of_lt_of_le (h.old p hp ad hA).1 f.size, (h.old p hp ad hA).2⟩⟩
theorem Mk.frS {S : Nat → Prop} {w0 w w' : World} {v : Value} {ps : List POp} (h : Mk w0 w v ps) (f : Fr S w w') (hS : ∀ j, S j → j < w0.heap.size) : Mk w0 w' v ps := by
  have hn : ∀ {e : TypeId} {size n : Nat} {u : Value} {xs : List Value}, w.ownsRow w0.heap.size e size u n xs → ∀ k, u.ownBlock = some k → ¬ S k := fun ho k hk hs => by
    have h1 := (World.ownsRow.lt ho k hk).1
    have h2 := hS k hs
    omega
  refine ⟨own_fr h.own f (hn h.own), fun p hp => ?_, fun init p e hc => ⟨own_fr (h.last init p e hc).1 f (hn (h.last init p e hc).1), (h.last init p e hc).2⟩, fun p hp ad hA => ⟨Nat.lt_of_lt_of_le (h.old p hp ad hA).1 f.size, (h.old p hp ad hA).2⟩⟩
  have h0 := h.ok p hp
  exact ⟨h0.f, h0.n, h0.le, h0.cap, h0.lies.fr f (fun ad hA hs => by
    have h1 := (h.old p hp ad hA).2.2
    have h2 := hS _ hs
    omega)⟩
theorem Mk.slice {w0 w : World} {v : Value} {ps : List POp} (h : Mk w0 w v ps) : ∃ A c, v = .slice A ps.length c ∧ Scr w A c ps ∧ ∀ ad, A = some ad → w0.heap.size ≤ ad.block := OwnP.scr h.own h.ok
/-- Behind an append of one op. -/
theorem Mk.push {w0 w w6 : World} {v v6 : Value} {ps : List POp} {p : POp} (h : Mk w0 w v ps) (hp : p.Ok w) (o6 : w6.ownsRow w0.heap.size 170 4 v6 (ps.length + 1) (flatP ps ++ p.cells)) (f6 : Fr (fun j => v.ownBlock = some j) w w6)
    (hat : v6.ownBlock = v.ownBlock ∨ ∃ j, v6.ownBlock = some j ∧ w.heap.size ≤ j) (hl : p.B = none) (hl2 : p.o.copy = false → p.o.b = [] ∧ p.c = 0) : Mk w0 w6 v6 (ps ++ [p]) := by
  refine ⟨by rw [List.length_append, flatP_append, flatP_one]; exact o6, fun q hq => ?_, fun init q e hc => ?_, fun q hq ad hA => ?_⟩
  · rcases List.mem_append.1 hq with h1 | h1
    · have hq0 := h.ok q h1
      exact ⟨hq0.f, hq0.n, hq0.le, hq0.cap, hq0.lies.fr f6 (fun ad hA => (h.old q h1 ad hA).2.1)⟩
    · rw [List.mem_singleton.1 h1]
      exact ⟨hp.f, hp.n, hp.le, hp.cap, hp.lies.fr f6 (fun ad hA => by rw [hl] at hA; cases hA)⟩
  · obtain ⟨e3, e4⟩ := List.append_inj' e rfl
    injection e4 with e4 _
    subst e4
    obtain ⟨h2, h3⟩ := hl2 hc
    rw [hl, h2, h3]
    exact ⟨World.ownsRow_nil _ _ _ _, fun q hq ad bd _ hb => by cases hb⟩
  · rcases List.mem_append.1 hq with h1 | h1
    · obtain ⟨h2, h3, h33⟩ := h.old q h1 ad hA
      refine ⟨Nat.lt_of_lt_of_le h2 f6.size, ?_, h33⟩
      rcases hat with h4 | ⟨j, h4, h5⟩
      · rw [h4]; exact h3
      · rw [h4]; intro e; injection e with e; omega
    · rw [List.mem_singleton.1 h1, hl] at hA; cases hA
theorem own_whole {w : World} {base : Nat} {e : TypeId} {size n g off c : Nat} {xs : List Value} (h : w.ownsRow base e size (.slice (some ⟨g, off, none⟩) n c) n xs) : ∃ cur, Whole w g e cur := by
  rcases h.2 with ⟨h0, _⟩ | ⟨g', cap, cur, hv, _, hh, _⟩
  · cases h0
  · injection hv with e1 _ _
    injection e1 with e1
    injection e1 with e1
    subst e1
    exact ⟨cur, hh⟩
/-- Behind an append of one byte to the last op's. -/
theorem Mk.grow {w0 w w6 : World} {g K c : Nat} {init : List POp} {p : POp} {v6 : Value} {cb : UInt8} (h : Mk w0 w (.slice (some ⟨g, 0, none⟩) (K + 1) c) (init ++ [p])) (hK : init.length = K) (hc : p.o.copy = false)
    (o6 : w6.ownsRow w0.heap.size 5 1 v6 (p.o.b.length + 1) (bytesV p.o.b ++ [.int .u8 cb.toNat])) (f6 : Fr (fun j => Value.ownBlock (.slice p.B p.o.b.length p.c) = some j) w w6)
    (hat : v6.ownBlock = Value.ownBlock (.slice p.B p.o.b.length p.c) ∨ ∃ j, v6.ownBlock = some j ∧ w.heap.size ≤ j) :
    ∃ B' c', v6 = .slice B' (p.o.b.length + 1) c' ∧ Mk w0 (w6.setCell ⟨g, K * 4 + 3, none⟩ v6) (.slice (some ⟨g, 0, none⟩) (K + 1) c) (init ++ [⟨⟨p.o.copy, p.o.frm, p.o.n, p.o.b ++ [cb]⟩, B', c'⟩]) := by
  obtain ⟨hlast, hdis⟩ := h.last init p rfl hc
  obtain ⟨B', c', hv6, hle, hcm⟩ := own_slice o6
  subst hv6
  have hpo := h.ok p (by simp)
  have hlen : (init ++ [p]).length = K + 1 := by simp [hK]
  have hown := h.own
  rw [hlen] at hown
  -- the ops' row is no row of bytes
  obtain ⟨cur, hW⟩ := own_whole hown
  have hne1 : Value.ownBlock (.slice p.B p.o.b.length p.c) ≠ some g := own_apart hlast hW (by decide)
  have hW6 : Whole w6 g 170 cur := hW.fr f6 hne1
  have hne6 : Value.ownBlock (.slice B' (p.o.b.length + 1) c') ≠ some g := own_apart o6 hW6 (by decide)
  have own6 := own_fr hown f6 (fun j hj e => by
    have : g = j := by simpa [Value.ownBlock] using hj
    subst this; exact hne1 e)
  have hst := (World.ownsRow.stored own6 (K * 4 + 3) (.slice B' (p.o.b.length + 1) c')).1
  have f7 : Fr (fun j => j = g) w6 (w6.setCell ⟨g, K * 4 + 3, none⟩ (.slice B' (p.o.b.length + 1) c')) := Fr.setCell (S := fun j => j = g) (p := ⟨g, K * 4 + 3, none⟩) (Fr.refl _ w6) (fun _ => rfl) _
  have hflat : (flatP (init ++ [p])).set (K * 4 + 3) (.slice B' (p.o.b.length + 1) c') = flatP (init ++ [⟨⟨p.o.copy, p.o.frm, p.o.n, p.o.b ++ [cb]⟩, B', c'⟩]) := by
    rw [flatP_append, flatP_append, flatP_one, flatP_one, List.set_append_right _ _ (by rw [flatP_len, hK]; omega), flatP_len, hK, show K * 4 + 3 - K * 4 = 3 by omega]
    simp [POp.cells]
  have o7 := own_fr o6 f7 (fun j hj e => hne6 (by rw [hj, e]))
  have hlen2 : (init ++ [(⟨⟨p.o.copy, p.o.frm, p.o.n, p.o.b ++ [cb]⟩, B', c'⟩ : POp)]).length = K + 1 := by simp [hK]
  have hbt : p.o.b.length + 1 = (p.o.b ++ [cb]).length := by simp
  have hcm2 : c' ≤ 9223372036854775807 := hcm
  have hbv : bytesV p.o.b ++ [.int .u8 cb.toNat] = bytesV (p.o.b ++ [cb]) := by rw [bytesV_append]; rfl
  rw [hbt] at o7 hle
  rw [hbv] at o7
  have hf := f7.size
  refine ⟨B', c', rfl, ⟨?_, fun q hq => ?_, fun init' q e hcq => ?_, fun q hq ad hA => ?_⟩⟩
  · rw [hlen2, ← hflat]
    exact hst
  · rcases List.mem_append.1 hq with h1 | h1
    · have hq0 := h.ok q (by simp [h1])
      refine ⟨hq0.f, hq0.n, hq0.le, hq0.cap, (hq0.lies.fr f6 (fun ad hA e => ?_)).fr f7 (fun ad hA e => ?_)⟩
      · cases hB : p.B with
        | none => rw [hB] at e; cases e
        | some bd =>
          rw [hB] at e
          have := hdis q h1 ad bd hA hB
          simp [Value.ownBlock] at e
          exact this e.symm
      · exact (h.old q (by simp [h1]) ad hA).2.1 (by simp [Value.ownBlock, e])
    · rw [List.mem_singleton.1 h1]
      exact ⟨hpo.f, hpo.n, hle, hcm2, by rw [hbt]; exact Lies.of_own o7⟩
  · obtain ⟨e3, e4⟩ := List.append_inj' e rfl
    injection e4 with e4 _
    subst e4
    subst e3
    refine ⟨by rw [hbt]; exact o7, fun q' hq' ad bd hA hB => ?_⟩
    have hbd : Value.ownBlock (.slice B' (p.o.b.length + 1) c') = some bd.block := by rw [show B' = some bd from hB]; rfl
    rcases hat with h1 | ⟨j, h1, h2⟩
    · rw [hbd] at h1
      cases hB0 : p.B with
      | none => rw [hB0] at h1; cases h1
      | some bd0 =>
        rw [hB0] at h1
        have := hdis q' hq' ad bd0 hA hB0
        simp [Value.ownBlock] at h1
        rw [h1]
        exact this
    · rw [hbd] at h1
      injection h1 with h1
      have := (h.old q' (by simp [hq']) ad hA).1
      omega
  · rcases List.mem_append.1 hq with h1 | h1
    · obtain ⟨h2, h3⟩ := h.old q (by simp [h1]) ad hA
      have := f6.size
      exact ⟨by omega, h3⟩
    · rw [List.mem_singleton.1 h1] at hA
      have hbd : Value.ownBlock (.slice B' (p.o.b ++ [cb]).length c') = some ad.block := by rw [show B' = some ad from hA]; rfl
      refine ⟨by rw [hbt]; exact (World.ownsRow.lt o7 _ hbd).2, fun e => hne6 ?_, (World.ownsRow.lt o7 _ hbd).1⟩
      rw [hbt, hbd]
      exact e.symm
theorem own_g0 {w : World} {base : Nat} {e : TypeId} {size n c : Nat} {A : Option Addr} {xs : List Value} (h : w.ownsRow base e size (.slice A n c) n xs) (hn : 0 < n) : ∃ g, A = some ⟨g, 0, none⟩ := by
  rcases own_shape h with ⟨_, h0, _⟩ | ⟨g, cap, hv, _⟩
  · omega
  · injection hv with e1 _ _
    exact ⟨g, e1⟩
theorem Mk.len {w0 w : World} {v : Value} {ps : List POp} (h : Mk w0 w v ps) : ∃ A c, v = .slice A ps.length c ∧ c ≤ 9223372036854775807 := by
  obtain ⟨A, c, hv, _, hc⟩ := own_slice h.own
  exact ⟨A, c, hv, hc⟩
theorem withO_nil (c : UInt8) : withO [] c = [newO [c]] := rfl
theorem withO_copy (os : List DOp) (o : DOp) (c : UInt8) (h : o.copy = true) : withO (os ++ [o]) c = os ++ [o] ++ [newO [c]] := by
  unfold withO
  simp [h]
theorem withO_new (os : List DOp) (o : DOp) (c : UInt8) (h : o.copy = false) : withO (os ++ [o]) c = os ++ [⟨o.copy, o.frm, o.n, o.b ++ [c]⟩] := by
  unfold withO
  simp [h]
set_option maxHeartbeats 6400000 in
set_option maxRecDepth 100000 in
theorem DwithNew_any (w0 w : World) (A : Option Addr) (c L : Nat) (ps : List POp) (cb : UInt8) (hL : ps.length = L) (hL4 : L ≤ 4000) (hb4 : ∀ p ∈ ps, p.o.b.length ≤ 4000) (hw0 : w0.heap.size ≤ w.heap.size) (hm : Mk w0 w (.slice A L c) ps) :
    Calls Tryz.prog 136 #[.slice A L c, .int .u8 cb.toNat] w fun e w' => ∃ v' ps', e = .returned v' ∧ Mk w0 w' v' ps' ∧ opsO ps' = withO (opsO ps) cb ∧ Fr (fun j => w0.heap.size ≤ j) w w' := by
  obtain ⟨i0, hi, hz0, hz1, hz2⟩ := info_parts info_u8
  obtain ⟨i1, gi, gz0, gz1, gz2⟩ := info_parts infoDO
  rcases List.eq_nil_or_concat ps with hps | ⟨init, p, rfl⟩
  · have hL0 : L = 0 := by rw [← hL, hps]; rfl
    have HWo : Hid (withO (opsO ps) cb = opsO ps ++ [⟨false, 0, 0, [] ++ [cb]⟩]) := Lib.hid (by rw [hps]; rfl)
    have hLz : ((L : Int) == 0) = true := by simp [hL0]
    clear hps hL0
    (
      have HOw := Lib.hid (show w.ownsRow w0.heap.size 170 4 (.slice A L c) L (flatP ps) from by have := hm.own; rwa [hL] at this)
      have HSrc : Hid (∀ w : World, Src Tryz.prog 4 128 (.slice (some ⟨w.heap.size, 0, none⟩) 1 1) 1 [.bool false, .int .i64 0, .int .i64 0, .slice none 0 0] (w.alloc (.cells #[.bool false, .int .i64 0, .int .i64 0, .slice none 0 0] 170))) := Lib.hid (fun w => src_op w 128 170 Tryz.underlying128 ⟨⟨false, 0, 0, []⟩, none, 0⟩)
      have HM0 := Lib.hid hm
      have HLn := Lib.hid hL
      clear hm hL hb4
      go_enter Tryz.func136, Tryz.ntmps136
      go_upto_region 3 with (at_builtin; refine wpList_append_row _ rfl (.tmp 18) (.tmp 20) 128 128 rfl w0.heap.size 170 i1 (.agg zeroO) 4 48 Tryz.underlying128 gi gz0 gz1 gz2 rfl _ L _ rfl (HOw.out.alloc _) _ 1 _ rfl (HSrc.out _) (by unfold maxLen; omega) (by omega) (by simp; omega) ?_
                             intro v6 wt o6 g6 at6
                             have HO6 := Lib.hid o6
                             have HG6 := Lib.hid g6
                             have HA6 := Lib.hid at6
                             obtain ⟨A6, k6, hv6, _, _⟩ := own_slice o6
                             subst hv6
                             clear o6 g6 at6)
      have HFt := Lib.hid (show Fr (fun j => w0.heap.size ≤ j) w wt from ((Fr.refl _ w).alloc _).grown HG6.out (fun j hj _ => (World.ownsRow.lt HOw.out j hj).1))
      have hMk : Mk w0 wt (.slice A6 (L + 1) k6) (ps ++ [⟨⟨false, 0, 0, []⟩, none, 0⟩]) := by
        refine Mk.push HM0.out ⟨⟨by decide, by decide⟩, ⟨by decide, by decide⟩, Nat.le_refl _, Nat.zero_le _, .inl rfl⟩ (by rw [HLn.out]; exact HO6.out) (((Fr.refl _ w).alloc _).grown HG6.out (fun j hj _ => hj)) (HA6.out.imp id (fun e => ⟨_, e, by simp⟩)) rfl (fun _ => ⟨rfl, rfl⟩)
      obtain ⟨g, hg⟩ := own_g0 (A := A6) HO6.out (by omega)
      subst hg
      have HMk := Lib.hid hMk
      clear hMk
      have hKl := HLn.out
      clear HLn HM0
      obtain ⟨init, hinit⟩ : ∃ init, init = ps := ⟨_, rfl⟩
      subst hinit
      obtain ⟨p, hp⟩ : ∃ p : POp, p = ⟨⟨false, 0, 0, []⟩, none, 0⟩ := ⟨_, rfl⟩
      have hcp : p.o.copy = false := by rw [hp]
      have hbl : p.o.b.length ≤ 4000 := by rw [hp]; simp
      have HIn : Hid (withO (opsO init) cb = opsO init ++ [⟨p.o.copy, p.o.frm, p.o.n, p.o.b ++ [cb]⟩]) := Lib.hid (by rw [hp]; exact HWo.out)
      rw [← hp] at HMk
      clear hp)
    (
      have hKg := hKl
      have HKl := Lib.hid hKl
      have hlast := HMk.out.last init p rfl hcp
      have hownt := HMk.out.own
      rw [show (init ++ [p]).length = L + 1 by simp [hKl]] at hownt
      obtain ⟨curt, hWt⟩ := own_whole hownt
      have HWt := Lib.hid hWt
      have HNe := Lib.hid (own_apart hlast.1 hWt (by decide))
      have HOt := Lib.hid hownt
      obtain ⟨⟨cp, f, n, bs⟩, B, pc⟩ := p
      obtain ⟨BL, hBL⟩ : ∃ BL, bs.length = BL := ⟨_, rfl⟩
      have HBL := Lib.hid hBL
      simp only at hcp hlast hbl
      subst hcp
      rw [hBL] at hbl
      have t3 : wt.cell? ⟨g, L * 4 + 3, none⟩ = some (.slice B BL pc) := by
        have h4 := flatP_get (init ++ [⟨⟨false, f, n, bs⟩, B, pc⟩]) L 3 ⟨⟨false, f, n, bs⟩, B, pc⟩ (by rw [List.getElem?_append_right (by omega), hKl]; simp) (by omega)
        rw [World.ownsRow.cellAt hownt (L * 4 + 3) (by omega), h4, ← hBL]
        rfl
      have HOl := Lib.hid hlast.1
      rw [hBL] at HOl
      have HSz := Lib.hid (show w0.heap.size ≤ wt.heap.size from Nat.le_trans hw0 HFt.out.size)
      simp only [hBL] at HNe
      clear hlast hownt hWt hKl hBL hKg
      go_wp2_with (at_builtin; refine wpList_append_row _ rfl (.tmp 31) (.tmp 33) 25 25 rfl w0.heap.size 5 i0 (.int .u8 0) 1 1 Tryz.underlying25 hi hz0 hz1 hz2 rfl _ BL _ rfl (HOl.out.alloc _) _ 1 _ rfl (src_one _ _) (by unfold maxLen; omega) (by omega) (by have := HSz.out; simp; omega) ?_
                   intro v6 w6 o6 g6 at6
                   have HO6 := Lib.hid o6
                   have HF6 := Lib.hid (show Fr (fun j => Value.ownBlock (.slice B BL pc) = some j) wt w6 from ((Fr.refl _ wt).alloc _).grown g6 (fun j hj _ => hj))
                   have HAt := Lib.hid (show v6.ownBlock = Value.ownBlock (.slice B BL pc) ∨ ∃ j, v6.ownBlock = some j ∧ wt.heap.size ≤ j from at6.imp id (fun e => ⟨_, e, by simp⟩))
                   have HW6 := Lib.hid (HWt.out.fr HF6.out HNe.out)
                   obtain ⟨A6, k6, hv6, _, _⟩ := own_slice o6
                   subst hv6
                   have HO6g := Lib.hid (own_fr HOt.out HF6.out (fun j hj e => by
                     have : g = j := by simpa [Value.ownBlock] using hj
                     subst this; exact HNe.out e))
                   have z6 : w6.frozen? ⟨g, L * 4 + 3, none⟩ = false := World.ownsRow.frozenAt HO6g.out _
                   have c6 : w6.cell? ⟨g, L * 4 + 3, none⟩ = some (.slice B BL pc) := HF6.out.cell t3 HNe.out
                   clear o6 g6 at6)

      go_ret
      have HM := Mk.grow (cb := cb) (v6 := .slice A6 (BL + 1) k6) HMk.out HKl.out rfl (by rw [HBL.out]; exact HO6.out) (by rw [HBL.out]; exact HF6.out) (by rw [HBL.out]; exact HAt.out)
      obtain ⟨B', c', hv', HM⟩ := HM
      refine ⟨_, rfl, _, HM, ?_, ?_⟩
      · rw [opsO_append]
        exact HIn.out.symm
      · have f7 : Fr (fun j => j = g) w6 (w6.setCell ⟨g, L * 4 + 3, none⟩ (.slice A6 (BL + 1) k6)) := Fr.setCell (S := fun j => j = g) (p := ⟨g, L * 4 + 3, none⟩) (Fr.refl _ w6) (fun _ => rfl) _
        refine (HFt.out.trans HF6.out (fun i hi e => ?_)).trans f7 (fun i hi e => ?_)
        · exact (World.ownsRow.lt HOl.out i e).1
        · have := (World.ownsRow.lt HOt.out g rfl).1
          omega)
  · rw [List.concat_eq_append] at *
    have hlK : init.length + 1 = L := by simpa using hL
    obtain ⟨K, hKl⟩ : ∃ K, init.length = K := ⟨_, rfl⟩
    obtain rfl : L = K + 1 := by omega
    obtain ⟨g, rfl⟩ := own_g0 (by have := hm.own; rw [hL] at this; exact this) (by omega)
    have hbl := hb4 p (by simp)
    have c0 : w.cell? ⟨g, K * 4, none⟩ = some (.bool p.o.copy) := by
      have h1 := hm.own
      rw [hL] at h1
      have h4 := flatP_get (init ++ [p]) K 0 p (by rw [List.getElem?_append_right (by omega), hKl]; simp) (by omega)
      rw [World.ownsRow.cellAt h1 (K * 4) (by omega)]
      exact h4
    cases hcp : p.o.copy
    · rw [hcp] at c0
      have HMk := Lib.hid hm
      have HFt := Lib.hid (Fr.refl (fun j => w0.heap.size ≤ j) w)
      have HIn : Hid (withO (opsO (init ++ [p])) cb = opsO init ++ [⟨p.o.copy, p.o.frm, p.o.n, p.o.b ++ [cb]⟩]) := Lib.hid (by rw [opsO_append]; exact withO_new _ _ _ hcp)
      clear hL hlK hm hb4
      go_enter Tryz.func136, Tryz.ntmps136
      (
        have hKg := hKl
        have HKl := Lib.hid hKl
        have hlast := HMk.out.last init p rfl hcp
        have hownt := HMk.out.own
        rw [show (init ++ [p]).length = K + 1 by simp [hKl]] at hownt
        obtain ⟨curt, hWt⟩ := own_whole hownt
        have HWt := Lib.hid hWt
        have HNe := Lib.hid (own_apart hlast.1 hWt (by decide))
        have HOt := Lib.hid hownt
        obtain ⟨⟨cp, f, n, bs⟩, B, pc⟩ := p
        obtain ⟨BL, hBL⟩ : ∃ BL, bs.length = BL := ⟨_, rfl⟩
        have HBL := Lib.hid hBL
        simp only at hcp hlast hbl
        subst hcp
        rw [hBL] at hbl
        have t3 : w.cell? ⟨g, K * 4 + 3, none⟩ = some (.slice B BL pc) := by
          have h4 := flatP_get (init ++ [⟨⟨false, f, n, bs⟩, B, pc⟩]) K 3 ⟨⟨false, f, n, bs⟩, B, pc⟩ (by rw [List.getElem?_append_right (by omega), hKl]; simp) (by omega)
          rw [World.ownsRow.cellAt hownt (K * 4 + 3) (by omega), h4, ← hBL]
          rfl
        have HOl := Lib.hid hlast.1
        rw [hBL] at HOl
        have HSz := Lib.hid (show w0.heap.size ≤ w.heap.size from Nat.le_trans hw0 HFt.out.size)
        simp only [hBL] at HNe
        clear hlast hownt hWt hKl hBL hKg
        go_wp2_with (at_builtin; refine wpList_append_row _ rfl (.tmp 31) (.tmp 33) 25 25 rfl w0.heap.size 5 i0 (.int .u8 0) 1 1 Tryz.underlying25 hi hz0 hz1 hz2 rfl _ BL _ rfl (HOl.out.alloc _) _ 1 _ rfl (src_one _ _) (by unfold maxLen; omega) (by omega) (by have := HSz.out; simp; omega) ?_
                     intro v6 w6 o6 g6 at6
                     have HO6 := Lib.hid o6
                     have HF6 := Lib.hid (show Fr (fun j => Value.ownBlock (.slice B BL pc) = some j) w w6 from ((Fr.refl _ w).alloc _).grown g6 (fun j hj _ => hj))
                     have HAt := Lib.hid (show v6.ownBlock = Value.ownBlock (.slice B BL pc) ∨ ∃ j, v6.ownBlock = some j ∧ w.heap.size ≤ j from at6.imp id (fun e => ⟨_, e, by simp⟩))
                     have HW6 := Lib.hid (HWt.out.fr HF6.out HNe.out)
                     obtain ⟨A6, k6, hv6, _, _⟩ := own_slice o6
                     subst hv6
                     have HO6g := Lib.hid (own_fr HOt.out HF6.out (fun j hj e => by
                       have : g = j := by simpa [Value.ownBlock] using hj
                       subst this; exact HNe.out e))
                     have z6 : w6.frozen? ⟨g, K * 4 + 3, none⟩ = false := World.ownsRow.frozenAt HO6g.out _
                     have c6 : w6.cell? ⟨g, K * 4 + 3, none⟩ = some (.slice B BL pc) := HF6.out.cell t3 HNe.out
                     clear o6 g6 at6)

        go_ret
        have HM := Mk.grow (cb := cb) (v6 := .slice A6 (BL + 1) k6) HMk.out HKl.out rfl (by rw [HBL.out]; exact HO6.out) (by rw [HBL.out]; exact HF6.out) (by rw [HBL.out]; exact HAt.out)
        obtain ⟨B', c', hv', HM⟩ := HM
        refine ⟨_, rfl, _, HM, ?_, ?_⟩
        · rw [opsO_append]
          exact HIn.out.symm
        · have f7 : Fr (fun j => j = g) w6 (w6.setCell ⟨g, K * 4 + 3, none⟩ (.slice A6 (BL + 1) k6)) := Fr.setCell (S := fun j => j = g) (p := ⟨g, K * 4 + 3, none⟩) (Fr.refl _ w6) (fun _ => rfl) _
          refine (HFt.out.trans HF6.out (fun i hi e => ?_)).trans f7 (fun i hi e => ?_)
          · exact (World.ownsRow.lt HOl.out i e).1
          · have := (World.ownsRow.lt HOt.out g rfl).1
            omega)
    · have HWo : Hid (withO (opsO (init ++ [p])) cb = opsO (init ++ [p]) ++ [⟨false, 0, 0, [] ++ [cb]⟩]) := Lib.hid (by rw [opsO_append]; exact withO_copy _ _ _ hcp)
      rw [hcp] at c0
      have HIl := Lib.hid hKl
      obtain ⟨ps, hps⟩ : ∃ ps, init ++ [p] = ps := ⟨_, rfl⟩
      obtain ⟨L, hLK⟩ : ∃ L, K + 1 = L := ⟨_, rfl⟩
      obtain ⟨A, hA⟩ : ∃ A, (some ⟨g, 0, none⟩ : Option Addr) = A := ⟨_, rfl⟩
      have hw1 : (L : Int) - 1 = K := by omega
      have hw2 : (K : Int) < L := by omega
      have hw3 : ((L : Int) == 0) = false := by simp; omega
      rw [hps] at hm hL HWo hb4 ⊢
      rw [hLK] at hm hL hL4 ⊢
      clear hps hlK hbl hKl hLK HIl
      subst hA
      (
        have HOw := Lib.hid (show w.ownsRow w0.heap.size 170 4 (.slice (some ⟨g, 0, none⟩) L c) L (flatP ps) from by have := hm.own; rwa [hL] at this)
        have HSrc : Hid (∀ w : World, Src Tryz.prog 4 128 (.slice (some ⟨w.heap.size, 0, none⟩) 1 1) 1 [.bool false, .int .i64 0, .int .i64 0, .slice none 0 0] (w.alloc (.cells #[.bool false, .int .i64 0, .int .i64 0, .slice none 0 0] 170))) := Lib.hid (fun w => src_op w 128 170 Tryz.underlying128 ⟨⟨false, 0, 0, []⟩, none, 0⟩)
        have HM0 := Lib.hid hm
        have HLn := Lib.hid hL
        clear hm hL hb4
        go_enter Tryz.func136, Tryz.ntmps136
        go_upto_region 3 with (at_builtin; refine wpList_append_row _ rfl (.tmp 18) (.tmp 20) 128 128 rfl w0.heap.size 170 i1 (.agg zeroO) 4 48 Tryz.underlying128 gi gz0 gz1 gz2 rfl _ L _ rfl (HOw.out.alloc _) _ 1 _ rfl (HSrc.out _) (by unfold maxLen; omega) (by omega) (by simp; omega) ?_
                               intro v6 wt o6 g6 at6
                               have HO6 := Lib.hid o6
                               have HG6 := Lib.hid g6
                               have HA6 := Lib.hid at6
                               obtain ⟨A6, k6, hv6, _, _⟩ := own_slice o6
                               subst hv6
                               clear o6 g6 at6)
        have HFt := Lib.hid (show Fr (fun j => w0.heap.size ≤ j) w wt from ((Fr.refl _ w).alloc _).grown HG6.out (fun j hj _ => (World.ownsRow.lt HOw.out j hj).1))
        have hMk : Mk w0 wt (.slice A6 (L + 1) k6) (ps ++ [⟨⟨false, 0, 0, []⟩, none, 0⟩]) := by
          refine Mk.push HM0.out ⟨⟨by decide, by decide⟩, ⟨by decide, by decide⟩, Nat.le_refl _, Nat.zero_le _, .inl rfl⟩ (by rw [HLn.out]; exact HO6.out) (((Fr.refl _ w).alloc _).grown HG6.out (fun j hj _ => hj)) (HA6.out.imp id (fun e => ⟨_, e, by simp⟩)) rfl (fun _ => ⟨rfl, rfl⟩)
        obtain ⟨gg, hg⟩ := own_g0 (A := A6) HO6.out (by omega)
        subst hg
        have HMk := Lib.hid hMk
        clear hMk
        have hKl := HLn.out
        clear HLn HM0
        obtain ⟨init, hinit⟩ : ∃ init, init = ps := ⟨_, rfl⟩
        subst hinit
        obtain ⟨p, hp⟩ : ∃ p : POp, p = ⟨⟨false, 0, 0, []⟩, none, 0⟩ := ⟨_, rfl⟩
        have hcp : p.o.copy = false := by rw [hp]
        have hbl : p.o.b.length ≤ 4000 := by rw [hp]; simp
        have HIn : Hid (withO (opsO init) cb = opsO init ++ [⟨p.o.copy, p.o.frm, p.o.n, p.o.b ++ [cb]⟩]) := Lib.hid (by rw [hp]; exact HWo.out)
        rw [← hp] at HMk
        clear hp)
      (
        have hKg := hKl
        have HKl := Lib.hid hKl
        have hlast := HMk.out.last init p rfl hcp
        have hownt := HMk.out.own
        rw [show (init ++ [p]).length = L + 1 by simp [hKl]] at hownt
        obtain ⟨curt, hWt⟩ := own_whole hownt
        have HWt := Lib.hid hWt
        have HNe := Lib.hid (own_apart hlast.1 hWt (by decide))
        have HOt := Lib.hid hownt
        obtain ⟨⟨cp, f, n, bs⟩, B, pc⟩ := p
        obtain ⟨BL, hBL⟩ : ∃ BL, bs.length = BL := ⟨_, rfl⟩
        have HBL := Lib.hid hBL
        simp only at hcp hlast hbl
        subst hcp
        rw [hBL] at hbl
        have t3 : wt.cell? ⟨gg, L * 4 + 3, none⟩ = some (.slice B BL pc) := by
          have h4 := flatP_get (init ++ [⟨⟨false, f, n, bs⟩, B, pc⟩]) L 3 ⟨⟨false, f, n, bs⟩, B, pc⟩ (by rw [List.getElem?_append_right (by omega), hKl]; simp) (by omega)
          rw [World.ownsRow.cellAt hownt (L * 4 + 3) (by omega), h4, ← hBL]
          rfl
        have HOl := Lib.hid hlast.1
        rw [hBL] at HOl
        have HSz := Lib.hid (show w0.heap.size ≤ wt.heap.size from Nat.le_trans hw0 HFt.out.size)
        simp only [hBL] at HNe
        clear hlast hownt hWt hKl hBL hKg
        go_wp2_with (at_builtin; refine wpList_append_row _ rfl (.tmp 31) (.tmp 33) 25 25 rfl w0.heap.size 5 i0 (.int .u8 0) 1 1 Tryz.underlying25 hi hz0 hz1 hz2 rfl _ BL _ rfl (HOl.out.alloc _) _ 1 _ rfl (src_one _ _) (by unfold maxLen; omega) (by omega) (by have := HSz.out; simp; omega) ?_
                     intro v6 w6 o6 g6 at6
                     have HO6 := Lib.hid o6
                     have HF6 := Lib.hid (show Fr (fun j => Value.ownBlock (.slice B BL pc) = some j) wt w6 from ((Fr.refl _ wt).alloc _).grown g6 (fun j hj _ => hj))
                     have HAt := Lib.hid (show v6.ownBlock = Value.ownBlock (.slice B BL pc) ∨ ∃ j, v6.ownBlock = some j ∧ wt.heap.size ≤ j from at6.imp id (fun e => ⟨_, e, by simp⟩))
                     have HW6 := Lib.hid (HWt.out.fr HF6.out HNe.out)
                     obtain ⟨A6, k6, hv6, _, _⟩ := own_slice o6
                     subst hv6
                     have HO6g := Lib.hid (own_fr HOt.out HF6.out (fun j hj e => by
                       have : gg = j := by simpa [Value.ownBlock] using hj
                       subst this; exact HNe.out e))
                     have z6 : w6.frozen? ⟨gg, L * 4 + 3, none⟩ = false := World.ownsRow.frozenAt HO6g.out _
                     have c6 : w6.cell? ⟨gg, L * 4 + 3, none⟩ = some (.slice B BL pc) := HF6.out.cell t3 HNe.out
                     clear o6 g6 at6)

        go_ret
        have HM := Mk.grow (cb := cb) (v6 := .slice A6 (BL + 1) k6) HMk.out HKl.out rfl (by rw [HBL.out]; exact HO6.out) (by rw [HBL.out]; exact HF6.out) (by rw [HBL.out]; exact HAt.out)
        obtain ⟨B', c', hv', HM⟩ := HM
        refine ⟨_, rfl, _, HM, ?_, ?_⟩
        · rw [opsO_append]
          exact HIn.out.symm
        · have f7 : Fr (fun j => j = gg) w6 (w6.setCell ⟨gg, L * 4 + 3, none⟩ (.slice A6 (BL + 1) k6)) := Fr.setCell (S := fun j => j = gg) (p := ⟨gg, L * 4 + 3, none⟩) (Fr.refl _ w6) (fun _ => rfl) _
          refine (HFt.out.trans HF6.out (fun i hi e => ?_)).trans f7 (fun i hi e => ?_)
          · exact (World.ownsRow.lt HOl.out i e).1
          · have := (World.ownsRow.lt HOt.out gg rfl).1
            omega)
end Go.Proofs.YtkaeoflgnnlbeaaGreatDoor

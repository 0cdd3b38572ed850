/- What is proved: texts that stand one behind the other: Pwe Pwh. Conditions: each theorem names its own. -/
import Derived.Test.YtkaeoflgnnlbeaaGreatDoorQPwd
import Derived.Test.YtkaeoflgnnlbeaaGreatDoorQPwf
import Derived.Lib.SlBytesConst
/- What is proved: an object's entry is laid by the packer; over what making a script tells. Conditions: the packer is the caller's; the objects' cells are there. -/
namespace Go.Proofs.YtkaeoflgnnlbeaaGreatDoor
open Go.RowKit
set_option linter.unusedVariables false

theorem frAbove {w0 w w' : World} (h : Fr (fun _ => False) w0 w) (k : Fr (fun j => w0.heap.size ≤ j) w w') : Fr (fun _ => False) w0 w' := h.trans k (fun i hi e => by omega)
/-- What entry does: an object's entry is laid, its place and its depth are kept. -/
def EtPost (w0 : World) (w : World) (g : Nat) (xs : List UInt8) (IA : Option Addr) (n c : Nat) (chain : Int) (pls : List PPl) (ds : List Int) (e : Ending) (w' : World) : Prop :=
  e = .returned (.tuple #[]) ∧ ∃ v' vp' vd', Pk w0.heap.size w' g v' vp' vd' xs IA n c chain pls ds ∧ Fr (fun _ => False) w0 w'
theorem lies_under {w : World} {A : Option Addr} {l : List UInt8} (h : Lies w A (bytesV l)) : l = [] ∨ ∀ ad, A = some ad → ad.block < w.heap.size := by
  rcases h with h | ⟨b, o, rfl, hc⟩
  · left; simpa [bytesV] using h
  · cases l with
    | nil => left; rfl
    | cons x l =>
      right
      intro ad e
      injection e with e
      subst e
      exact World.block_lt_of_cell? w ⟨b, o + 0, none⟩ (hc 0 (byteV x) rfl)
/-- Bytes that lie apart from what a writer writes. -/
def Ap (N0 N : Nat) (A : Option Addr) (l : List UInt8) (g : Nat) (v : Value) : Prop := l = [] ∨ ∀ ad, A = some ad → ad.block < N0 ∨ (ad.block < N ∧ ad.block ≠ g ∧ v.ownBlock ≠ some ad.block)
theorem Ap.step {N0 N : Nat} {A : Option Addr} {l : List UInt8} {g : Nat} {v v' : Value} {w w' : World} (h : Ap N0 N A l g v) (hl : Lies w A (bytesV l)) (hs : WSt w g v w' v') (hN : N ≤ w.heap.size) (hg : N0 ≤ g) (hv : ∀ j, v.ownBlock = some j → N0 ≤ j) : Lies w' A (bytesV l) ∧ Ap N0 N A l g v' := by
  rcases h with h | h
  · subst h; exact ⟨.inl rfl, .inl rfl⟩
  · refine ⟨hl.fr hs.fr (fun ad e hS => ?_), .inr (fun ad e => ?_)⟩
    · rcases h ad e with h1 | ⟨_, h2, h3⟩
      · rcases hS with hS | hS
        · omega
        · have := hv _ hS; omega
      · rcases hS with hS | hS
        · exact h2 hS
        · exact h3 hS
    · rcases h ad e with h1 | ⟨h1, h2, h3⟩
      · exact .inl h1
      · refine .inr ⟨h1, h2, ?_⟩
        rcases hs.own with ho | ⟨b, ho, hb⟩
        · rw [ho]; exact h3
        · rw [ho]; intro e2; injection e2 with e2; omega
theorem yieldsIf_build {P : Program} {ops : Array Oper} {S : World → Prop} {op : Oper} {a : Act} (hw : Region.wanted op (yielded ops a.tmps) = true) (t : TypeId) (parts : Array (Nat × Operand)) (ho : op.op = .build t parts)
    (vals : Array (Nat × Value)) (hvals : (parts.map fun (i, x) => (i, a.eval x)) = vals) (v : Value) (hv : ∀ w, (Instr.build t vals).run P w = .ok v w) : YieldsIf P ops S op v a :=
  .inl ⟨hw, fun w _ => by
    unfold execOp
    simp [ho, hvals, hv]⟩
theorem yieldsIf_load_id {ops : Array Oper} {S : World → Prop} {op : Oper} {a : Act} (hw : Region.wanted op (yielded ops a.tmps) = true) (x : Operand) (ho : op.op = .load 48 x)
    (b : Nat) (hx : a.eval x = .pointer (some ⟨b, 0, none⟩)) (V : Array Value) (hs : V.size = 32) (hS : ∀ w, S w → Whole w b 48 V) : YieldsIf Tryz.prog ops S op (.agg V) a := by
  have := yieldsIf_load_mid (P := Tryz.prog) (ops := ops) (S := S) hw 48 x ho b 0 hx V.toList _ (fun w h => by
    have := (hS w h).range 0 32
    rwa [List.drop_zero, List.take_of_length_le (by simp [hs])] at this) Tryz.underlying48 rfl (by rw [Array.length_toList, hs]; exact sizeID)
  rwa [Array.toArray_toList] at this
theorem build_pls (q : PPl) (hq : q.Ok) (w : World) : (Instr.buildSlice 26 1 #[(0, .agg q.cells.toArray)]).run Tryz.prog w = .ok (.slice (some ⟨w.heap.size, 0, none⟩) 1 1) (w.alloc (.cells q.cells.toArray 56)) := by
  obtain ⟨i, hi, hz0, hz1, hz2⟩ := info_parts infoPl
  refine run_buildSlice w 26 56 1 _ q.cells.toArray i (.agg zeroPl) Tryz.underlying26 hi hz0 (by rw [hz1]; decide) (by rw [hz1]; decide) ?_
  rw [hz1]
  have := Great.fill_whole (s := 34) (by decide) [.agg q.cells.toArray] ((Array.range (1 * 34)).map ((Value.agg zeroPl).cells[· % (Value.agg zeroPl).cells.size]!)) (fun v hv => by rw [List.mem_singleton.1 hv]; simp [Value.cells, hq.len]) (by simp)
  simpa [Value.cells] using this
theorem wp_build_pls {op : Oper} {a : Act} {w : World} {K : Act → World → Prop} {Q : Exit → Act → World → Prop} (x : Operand) (ho : op.op = .buildSlice 26 1 #[(0, x)]) (q : PPl) (hq : q.Ok)
    (hx : a.eval x = .agg q.cells.toArray) (h : K (a.put op.dst (.slice (some ⟨w.heap.size, 0, none⟩) 1 1)) (w.alloc (.cells q.cells.toArray 56))) : op.wp Tryz.prog a w K Q := by
  unfold Oper.wp execOp
  have e : (#[((0 : Nat), x)].map fun (i, y) => (i, a.eval y)) = #[(0, .agg q.cells.toArray)] := by simp [hx]
  simp only [ho, e, Sem.run_bind, build_pls q hq, Result.andThen_ok, Sem.run_pure]
  exact h
theorem src_pl (w : World) (q : PPl) (hq : q.Ok) : Src Tryz.prog 34 26 (.slice (some ⟨w.heap.size, 0, none⟩) 1 1) 1 q.cells (w.alloc (.cells q.cells.toArray 56)) :=
  Src.ofSlice _ Tryz.underlying26 ⟨w.heap.size, 0, none⟩ 1 1 q.cells (by rw [hq.len]) (fun j u hu => by
    rw [add_off, Nat.zero_add, (Whole.new w 56 _).cell]; simpa using hu) hq.one'
set_option maxHeartbeats 12800000 in
set_option maxRecDepth 100000 in
theorem Pentry_any (dl : List UInt8 → List UInt8 → List UInt8 × Int) (w0 : World) (g : Nat) (v vp vd : Value) (xs : List UInt8) (IA : Option Addr) (c : Nat) (ps : List PIt) (chain : Int) (pls : List PPl) (ds : List Int) (k : Nat) (p : PIt) (V : Array Value) (hV : V.size = 32) (hV1 : ∀ u ∈ V.toList, u.oneCell' = true)
    (hp : ps[k]? = some p) (hkd : 0 ≤ p.k ∧ p.k ≤ 4) (hds : ds.length = k) (hpl : pls.length = k) (hk6 : k ≤ 600) (hx : xs.length ≤ 2000000) (hb4 : p.b.length ≤ 4000)
    (hsc : ∀ j ∈ candL ps ds p.k chain k 4, ∀ q, ps[j]? = some q → ScSays dl q.b p.b) (hat : ∀ x ∈ pls, x.at' ≤ xs.length) (hdd : ∀ d ∈ ds, 0 ≤ d ∧ d ≤ 8)
    (w : World) (hF : Fr (fun _ => False) w0 w) (hi : Its w0 IA c ps) (hP : Pk w0.heap.size w g v vp vd xs IA ps.length c chain pls ds) :
    Calls Tryz.prog 24 #[.pointer (some ⟨g, 0, none⟩), .int .i64 k, .agg V] w
      (EtPost w0 w g (layE xs p.k (bestL dl ps p.b (candL ps ds p.k chain k 4) (none, p.b)).2 ((bestL dl ps p.b (candL ps ds p.k chain k 4) (none, p.b)).1.map fun b => xs.length - (((pls[b]?).map PPl.at').getD 0))) IA ps.length c chain
        (pls ++ [⟨V, xs.length, crcI (bestL dl ps p.b (candL ps ds p.k chain k 4) (none, p.b)).2⟩]) (ds ++ [match (bestL dl ps p.b (candL ps ds p.k chain k 4) (none, p.b)).1 with | none => 0 | some b => ds.getD b 0 + 1])) := by
  obtain ⟨AP, cp, hvp, -, -⟩ := own_slice hP.pl
  obtain ⟨AD, cd, hvd, -, -⟩ := own_slice hP.dp
  rw [hpl] at hvp
  rw [hds] at hvd
  subst hvp; subst hvd
  obtain ⟨i1, gi, gz0, gz1, gz2⟩ := info_parts info_int
  obtain ⟨i2, hj, hz0, hz1, hz2⟩ := info_parts infoPl
  have hkl : k < ps.length := (List.getElem?_eq_some_iff.1 hp).1
  have HLd := Lib.hid (fun w' (f : Fr (fun _ => False) w w') => Pload_any dl g v IA c ps chain _ _ ds w0.heap.size k p hp hds hk6 w0.heap.size (lies_under (hi.ok p (List.mem_of_getElem? hp)).lies) hsc w' (hi.fr (hF.trans f (fun _ _ e => e))) (hP.whole.fr f (fun e => e)) (by have := own_fr hP.dp f (fun _ _ e => e); rwa [hds] at this))
  obtain ⟨ab, ao, hIA⟩ := hi.addr hkl
  subst hIA
  have hbp := bestL_prop dl ps p.b (candL ps ds p.k chain k 4) (none, p.b)
  have hct := candL_lt ps ds p.k chain k 4
  unfold LdPost at HLd
  obtain ⟨⟨o, ld⟩, hR⟩ : ∃ R, bestL dl ps p.b (candL ps ds p.k chain k 4) (none, p.b) = R := ⟨_, rfl⟩
  rw [hR] at HLd hbp ⊢
  simp only at HLd hbp ⊢
  have hob : ∀ b, o = some b → b < k := fun b hb => by
    rcases hbp.1 with h1 | ⟨c', hc', h1, _⟩
    · injection h1 with h1 _; rw [h1] at hb; cases hb
    · rw [hb] at h1; injection h1 with h1; rw [h1]; exact (hct c' hc').1
  have hll : ld.length ≤ 4000 := by have := hbp.2; omega
  have hkc := (hi.cells hp).1
  obtain ⟨kk, hkk⟩ : ∃ kk, p.k = kk := ⟨_, rfl⟩
  rw [hkk] at hkc hkd ⊢
  obtain ⟨hkd0, hkd1⟩ := hkd
  have HF0 := Lib.hid hF
  have HKc := Lib.hid hkc
  have HOb := Lib.hid hob
  have HX := Lib.hid hx
  have HAt := Lib.hid hat
  have HDd := Lib.hid hdd
  have HDs := Lib.hid hds
  have HPl := Lib.hid hpl
  have HV := Lib.hid (And.intro hV hV1)
  obtain ⟨LD, hLD⟩ : ∃ LD, ld.length = LD := ⟨_, rfl⟩
  have HLD := Lib.hid hLD
  rw [hLD] at HLd hll
  obtain ⟨XL, hXL⟩ : ∃ XL, xs.length = XL := ⟨_, rfl⟩
  have HXL := Lib.hid hXL
  rw [hXL] at hx ⊢
  obtain ⟨L, hL⟩ : ∃ L, ps.length = L := ⟨_, rfl⟩
  rw [hL] at hkl hP ⊢
  obtain ⟨sm, hsm⟩ : ∃ sm, crcI ld = sm := ⟨_, rfl⟩
  have hs0 : 0 ≤ sm ∧ sm < 4294967296 := by rw [← hsm]; exact ⟨rI_lo _, rI_hi _⟩
  obtain ⟨hs0, hs1⟩ := hs0
  have HSm := Lib.hid hsm
  rw [hsm]
  obtain ⟨w1, hw1⟩ : ∃ w1, w.alloc (.cells V 48) = w1 := ⟨_, rfl⟩
  have HF1 := Lib.hid (show Fr (fun _ => False) w w1 by subst hw1; exact (Fr.refl _ _).alloc _)
  have HI1 := Lib.hid (show Whole w1 w.heap.size 48 V by subst hw1; exact Whole.new _ _ _)
  have HP1 := Lib.hid (hP.frF HF1.out)
  have HBs := Lib.hid (show w0.heap.size ≤ w.heap.size from hF.size)
  have hkL : (k : Int) < L := by omega
  have hkw : IntKind.u8.wrap kk = kk := by rw [IntKind.wrap_u8]; omega
  have hlw : IntKind.u64.wrap (LD : Int) = LD := by rw [IntKind.wrap_u64]; omega
  clear hp hds hpl hsc hat hdd hi hR hbp hct hob hkk hkc hLD hXL hL hsm hF hP hV hV1 hb4
  have HLd1 := Lib.hid (HLd.out w1 HF1.out)
  have hlen := Lib.hid (WLen_any g v xs w1 HP1.out.wr)
  rw [HXL.out] at hlen
  cases o with
  | none =>
    simp only [Option.isNone_none, obI, Option.map_none] at HLd1 ⊢
    go_enter Tryz.func24, Tryz.ntmps24
    go_upto_region 5 with (
      (first
        | (go_at_call 46; refine HLd1.out.mono ?_; rintro e w2 ⟨A2, c2, rfl, l2, m2, y2, n2, b2⟩; have HC2 := Lib.hid (And.intro l2 m2); have HL2 := Lib.hid y2; have HNe := Lib.hid n2; have HF2 := Lib.hid (HF1.out.then_below b2); have HP2 := Lib.hid (HP1.out.frF (Fr.of_below (S := fun _ => False) b2)); have HI2 := Lib.hid (HI1.out.fr (Fr.of_below (S := fun _ => False) b2) (fun e => e)); clear l2 m2 y2 n2 b2)
        | (go_at_call 25; refine hlen.out.mono ?_; rintro e wx ⟨rfl, rfl⟩)))
    (
      obtain ⟨N, hN⟩ : ∃ N, w2.heap.size = N := ⟨_, rfl⟩
      have HN := Lib.hid hN
      have HA2 := Lib.hid (show Ap w0.heap.size N A2 ld g v from by
        rcases lies_under HL2.out with h | h
        · exact .inl h
        · rcases HNe.out with h2 | h2
          · exact .inl h2
          · refine .inr (fun ad e => ?_)
            rcases h2 ad e with h3 | h3
            · exact .inl h3
            · have h4 := HP1.out.whole.lt
              refine .inr ⟨by have := h ad e; omega, by omega, fun e2 => ?_⟩
              have := (World.ownsRow.lt HP1.out.wr.2 _ e2).2
              omega)
      have HFw2 := Lib.hid (HF0.out.trans HF2.out (fun _ _ e => e))
      clear hN)
    have HQk := Lib.hid (fun w' (f : Fr (fun _ => False) w0 w') => f.cell HKc.out (fun e => e))
    refine wp_region_held (S := fun w' => w'.cell? ⟨g, 1, none⟩ = some (.slice (some ⟨ab, ao, none⟩) L c) ∧ w'.cell? ⟨ab, ao + k * 2, none⟩ = some (.int .i64 kk)) (by kernel_rfl) ?_
    have HSq := Lib.hid (show (World.drew w2).cell? ⟨g, 1, none⟩ = some (.slice (some ⟨ab, ao, none⟩) L c) ∧ (World.drew w2).cell? ⟨ab, ao + k * 2, none⟩ = some (.int .i64 kk) from ⟨HP2.out.cells.2.1, HQk.out w2 HFw2.out⟩)
    (
      refine wpAnyH_takeP (i := 0) (v := .pointer (some ⟨g, 0, none⟩)) 24 rfl rfl (by kernel_rfl) (by kernel_rfl) (by kernel_rfl) (fun _ _ _ h => h) (.inl ⟨by rfl, ?_⟩) HSq.out ?_
      · intro xw xf
        go_simp)
    (
      refine wpAnyH_takeP (i := 1) (v := .pointer (some ⟨g, 0, none⟩)) 25 rfl rfl (by kernel_rfl) (by kernel_rfl) (by kernel_rfl) (fun _ _ _ h => h) (.inl ⟨by rfl, ?_⟩) HSq.out ?_
      · intro xw xf
        go_simp)
    (
      refine wpAnyH_takeP (i := 2) (v := .pointer (some ⟨g, 0, none⟩)) 26 rfl rfl (by kernel_rfl) (by kernel_rfl) (by kernel_rfl) (fun _ _ _ h => h) (.inl ⟨by rfl, ?_⟩) HSq.out ?_
      · intro xw xf
        go_simp)
    (
      refine wpAnyH_takeP (i := 3) (v := .pointer (some ⟨g, 0, none⟩)) 27 rfl rfl (by kernel_rfl) (by kernel_rfl) (by kernel_rfl) (fun _ _ _ h => h) (.inl ⟨by rfl, ?_⟩) HSq.out ?_
      · intro xw xf
        go_simp)
    (
      refine wpAnyH_takeP (i := 4) (v := .pointer (some ⟨g, 0, none⟩)) 28 rfl rfl (by kernel_rfl) (by kernel_rfl) (by kernel_rfl) (fun _ _ _ h => h) (.inl ⟨by rfl, ?_⟩) HSq.out ?_
      · intro xw xf
        go_simp)
    (
      refine wpAnyH_takeP (i := 5) (v := .pointer (some ⟨g, 1, none⟩)) 29 rfl rfl (by kernel_rfl) (by kernel_rfl) (by kernel_rfl) (fun _ _ _ h => h) (.inl ⟨by rfl, ?_⟩) HSq.out ?_
      · intro xw xf
        go_simp)
    (
      refine wpAnyH_takeP (i := 6) (v := .slice (some ⟨ab, ao, none⟩) L c) 30 rfl rfl (by kernel_rfl) (by kernel_rfl) (by kernel_rfl) (fun _ _ _ h => h) (.inl ⟨by rfl, ?_⟩) HSq.out ?_
      · rintro xw ⟨xf, xg⟩
        go_simp)
    (
      refine wpAnyH_takeP (i := 7) (v := .int .i64 k) 31 rfl rfl (by kernel_rfl) (by kernel_rfl) (by kernel_rfl) (fun _ _ _ h => h) (.inl ⟨by rfl, ?_⟩) HSq.out ?_
      · intro xw xf
        go_simp)
    (
      refine wpAnyH_takeP (i := 8) (v := .pointer (some ⟨ab, ao + k * 2, none⟩)) 32 rfl rfl (by kernel_rfl) (by kernel_rfl) (by kernel_rfl) (fun _ _ _ h => h) (.inl ⟨by rfl, ?_⟩) HSq.out ?_
      · intro xw xf
        go_simp)
    (
      refine wpAnyH_takeP (i := 9) (v := .pointer (some ⟨ab, ao + k * 2, none⟩)) 33 rfl rfl (by kernel_rfl) (by kernel_rfl) (by kernel_rfl) (fun _ _ _ h => h) (.inl ⟨by rfl, ?_⟩) HSq.out ?_
      · intro xw xf
        go_simp)
    (
      refine wpAnyH_takeP (i := 10) (v := .int .i64 kk) 34 rfl rfl (by kernel_rfl) (by kernel_rfl) (by kernel_rfl) (fun _ _ _ h => h) (.inl ⟨by rfl, ?_⟩) HSq.out ?_
      · rintro xw ⟨xf, xg⟩
        go_simp)
    (
      refine wpAnyH_takeP (i := 11) (v := .int .u8 kk) 35 rfl rfl (by kernel_rfl) (by kernel_rfl) (by kernel_rfl) (fun _ _ _ h => h) (.inl ⟨by rfl, ?_⟩) HSq.out ?_
      · intro xw xf
        go_simp)
    (
      change wpAnyH _ _ _ _ _ _ _ _ (World.drew w2)
      have HFd := Lib.hid (show Fr (fun _ => False) w2 (World.drew w2) from (Fr.refl _ w2).drew)
      obtain ⟨wd, hwd⟩ : ∃ wd, World.drew w2 = wd := ⟨_, rfl⟩
      rw [hwd]
      rw [hwd] at HFd
      clear hwd HSq)
    have HPd := Lib.hid (HP2.out.frF HFd.out)
    have HFwd := Lib.hid (HFw2.out.trans HFd.out (fun _ _ e => e))
    have HLd2 := Lib.hid (HL2.out.fr HFd.out (fun _ _ e => e))
    have HId := Lib.hid (HI2.out.fr HFd.out (fun e => e))
    have HNd := Lib.hid (show N ≤ wd.heap.size from by have := HFd.out.size; have := HN.out; omega)
    have HWB := Lib.hid (WByte_any g v xs kk wd HPd.out.wr hkd0 (by omega) (by have := HX.out; omega))
    unfold WPost WTo at HWB
    (
      try simp only [List.setIfInBounds_toArray, List.set_cons_succ, List.set_cons_zero]
      refine wpAnyH_all (rs := [12]) (by kernel_rfl) (by simp) ?_
      intro i hi
      simp only [List.mem_cons, List.not_mem_nil, or_false] at hi
      subst hi)
    refine wpOp_step rfl (fun K hK => ?_)
    go_simp
    go_wp2_with (go_at_call 47; refine HWB.out.mono ?_; rintro e w3 ⟨rfl, v3, r3, s3⟩; (
      (have hpw := HPd.out.wrote HFwd.out.size r3 s3; have hap := HA2.out.step HLd2.out s3 HNd.out HPd.out.lo HPd.out.vo; have HP3 := Lib.hid hpw.1; have HF3 := Lib.hid (frAbove HFwd.out hpw.2); have HL3 := Lib.hid hap.1; have HA3 := Lib.hid hap.2; have HI3 := Lib.hid (HId.out.fr s3.fr (fun e => by rcases e with e | e; exact (HId.out.apart HPd.out.whole (by decide)) e; exact own_apart HPd.out.wr.2 HId.out (by decide) e)); have HN3 := Lib.hid (show N ≤ w3.heap.size from by have := s3.fr.size; have := HNd.out; omega); clear hpw hap r3 s3)))
    refine ⟨⟨HP3.out.cells.2.1, HQk.out w3 HF3.out⟩, ?_⟩
    refine wpAnyH_done (by kernel_rfl) ?_ _
    have HWV := Lib.hid (WVar_any g v3 (xs ++ [toB kk]) LD w3 HP3.out.wr (by omega) (by omega) (by rw [List.length_append]; have := HX.out; simp; omega))
    unfold WPost WTo at HWV
    rw [Int.toNat_natCast] at HWV
    go_upto_region 11 with (go_at_call 48; refine HWV.out.mono ?_; rintro e w4 ⟨rfl, v4, r4, s4⟩; (
      (have hpw := HP3.out.wrote HF3.out.size r4 s4; have hap := HA3.out.step HL3.out s4 HN3.out HP3.out.lo HP3.out.vo; have HP4 := Lib.hid hpw.1; have HF4 := Lib.hid (frAbove HF3.out hpw.2); have HL4 := Lib.hid hap.1; have HA4 := Lib.hid hap.2; have HI4 := Lib.hid (HI3.out.fr s4.fr (fun e => by rcases e with e | e; exact (HI3.out.apart HP3.out.whole (by decide)) e; exact own_apart HP3.out.wr.2 HI3.out (by decide) e)); have HN4 := Lib.hid (show N ≤ w4.heap.size from by have := s4.fr.size; have := HN3.out; omega); clear hpw hap r4 s4)))
    --L1
    (
      obtain ⟨Y, hY⟩ : ∃ Y, (xs ++ [toB kk] ++ varB LD) = Y := ⟨_, rfl⟩
      have hYl : Y.length ≤ 2000030 := by
        rw [← hY]
        have := varB_length LD
        have := varB_length LD
        have := HX.out
        simp only [List.length_append, List.length_cons, List.length_nil]
        omega
      have HY := Lib.hid hY
      rw [hY] at HP4
      clear hY
      have HCo := Lib.hid (by
        have h1 := COf_any (some ⟨w4.heap.size, 0, none⟩) 1 [ld] _ (parts1 w4 ld A2 c2 LD HLD.out HC2.out.1 HL4.out) (by show 1 ≤ 9223372036854775807; decide) (by simp; have := HLD.out; omega)
        simp only [List.flatten_cons, List.flatten_nil, List.append_nil] at h1
        rw [show rI (more 0#32 ld) = sm from HSm.out] at h1
        exact h1 : Calls Tryz.prog 49 #[.slice (some ⟨w4.heap.size, 0, none⟩) 1 1] (World.alloc w4 (.cells #[.slice A2 LD c2] 25)) fun e w' => e = .returned (.int .u32 sm) ∧ Below (World.alloc w4 (.cells #[.slice A2 LD c2] 25)).heap.size (World.alloc w4 (.cells #[.slice A2 LD c2] 25)) w')
      go_upto_region 12 with (go_at_call 49; refine HCo.out.mono ?_; rintro e w5 ⟨rfl, b5⟩; have HF45 := Lib.hid (((Fr.refl (fun _ => False) w4).alloc (.cells #[.slice A2 LD c2] 25)).then_below b5); clear b5)
      have HP5 := Lib.hid (HP4.out.frF HF45.out)
      have HF5 := Lib.hid (HF4.out.trans HF45.out (fun _ _ e => e))
      have HL5 := Lib.hid (HL4.out.fr HF45.out (fun _ _ e => e))
      have HI5 := Lib.hid (HI4.out.fr HF45.out (fun e => e))
      have HN5 := Lib.hid (show N ≤ w5.heap.size from by have := HF45.out.size; have := HN4.out; omega)
      have HU := Lib.hid (WU32_any g v4 Y sm w5 HP5.out.wr hs0 hs1 (by omega))
      unfold WPost WTo at HU
      go_upto_region 13 with (go_at_call 45; refine HU.out.mono ?_; rintro e w6 ⟨rfl, v6, r6, s6⟩; have hpw := HP5.out.wrote HF5.out.size r6 s6; have hap := HA4.out.step HL5.out s6 HN5.out HP5.out.lo HP5.out.vo; have HP6 := Lib.hid hpw.1; have HF6 := Lib.hid (frAbove HF5.out hpw.2); have HL6 := Lib.hid hap.1; have HI6 := Lib.hid (HI5.out.fr s6.fr (fun e => by rcases e with e | e; exact (HI5.out.apart HP5.out.whole (by decide)) e; exact own_apart HP5.out.wr.2 HI5.out (by decide) e)); clear hpw hap r6 s6)
      have HRa := Lib.hid (WRaw_n g v6 (Y ++ hiB sm 4 4) ld A2 c2 LD w6 HLD.out HP6.out.wr HL6.out (by rw [List.length_append, hiB_length, HLD.out]; omega))
      unfold WPost WTo at HRa
      go_upto_region 14 with (go_at_call 44; refine HRa.out.mono ?_; rintro e w7 ⟨rfl, v7, r7, s7⟩; have hpw := HP6.out.wrote HF6.out.size r7 s7; have HP7 := Lib.hid hpw.1; have HF7 := Lib.hid (frAbove HF6.out hpw.2); have HI7 := Lib.hid (HI6.out.fr s7.fr (fun e => by rcases e with e | e; exact (HI6.out.apart HP6.out.whole (by decide)) e; exact own_apart HP6.out.wr.2 HI6.out (by decide) e)); clear hpw r7 s7)
      obtain ⟨idb, hidb⟩ : ∃ idb, w.heap.size = idb := ⟨_, rfl⟩
      rw [hidb] at HI7 ⊢
      have HQq := Lib.hid (show (⟨V, XL, sm⟩ : PPl).Ok from ⟨HV.out.1, HV.out.2⟩)
      clear hidb
      have HQV := Lib.hid (show Whole (World.drew w7) idb 48 V from HI7.out)
      refine wp_region_held (S := fun w' => Whole w' idb 48 V) (by kernel_rfl) ?_
      have HSq := HQV
      (
        refine wpAnyH_takeP (i := 0) (v := .pointer (some ⟨g, 0, none⟩)) 91 rfl rfl (by kernel_rfl) (by kernel_rfl) (by kernel_rfl) (fun _ _ _ h => h) (.inl ⟨by rfl, ?_⟩) HSq.out ?_
        · intro xw xf
          go_simp)
      (
        refine wpAnyH_takeP (i := 1) (v := .pointer (some ⟨g, 0, none⟩)) 92 rfl rfl (by kernel_rfl) (by kernel_rfl) (by kernel_rfl) (fun _ _ _ h => h) (.inl ⟨by rfl, ?_⟩) HSq.out ?_
        · intro xw xf
          go_simp)
      (
        refine wpAnyH_takeP (i := 2) (v := .pointer (some ⟨g, 0, none⟩)) 93 rfl rfl (by kernel_rfl) (by kernel_rfl) (by kernel_rfl) (fun _ _ _ h => h) (.inl ⟨by rfl, ?_⟩) HSq.out ?_
        · intro xw xf
          go_simp)
      (
        refine wpAnyH_takeP (i := 3) (v := .pointer (some ⟨g, 3, none⟩)) 94 rfl rfl (by kernel_rfl) (by kernel_rfl) (by kernel_rfl) (fun _ _ _ h => h) (.inl ⟨by rfl, ?_⟩) HSq.out ?_
        · intro xw xf
          go_simp)
      refine wpAnyH_takeP (i := 5) (v := .agg V) 96 rfl rfl (by kernel_rfl) (by kernel_rfl) (by kernel_rfl) (fun _ _ _ h => h) (yieldsIf_load_id (by kernel_rfl) (.tmp 5) rfl idb (by kernel_rfl) V HV.out.1 (fun _ h => h)) HSq.out ?_
      (
        refine wpAnyH_takeP (i := 6) (v := .int .i64 XL) 97 rfl rfl (by kernel_rfl) (by kernel_rfl) (by kernel_rfl) (fun _ _ _ h => h) (.inl ⟨by rfl, ?_⟩) HSq.out ?_
        · intro xw xf
          go_simp)
      (
        refine wpAnyH_takeP (i := 7) (v := .int .u32 sm) 98 rfl rfl (by kernel_rfl) (by kernel_rfl) (by kernel_rfl) (fun _ _ _ h => h) (.inl ⟨by rfl, ?_⟩) HSq.out ?_
        · intro xw xf
          go_simp)
      refine wpAnyH_takeP (i := 8) (v := .agg (PPl.cells ⟨V, XL, sm⟩).toArray) 99 rfl rfl (by kernel_rfl) (by kernel_rfl) (by kernel_rfl) (fun _ _ _ h => h) (yieldsIf_build (by kernel_rfl) 56 _ rfl #[(0, .agg V), (1, .int .i64 XL), (2, .int .u32 sm)] (by kernel_rfl) _ (build_pl ⟨V, XL, sm⟩ HV.out.1)) HSq.out ?_
      (
        change wpAnyH _ _ _ _ _ _ _ _ (World.drew w7)
        have HFg := Lib.hid (show Fr (fun _ => False) w7 (World.drew w7) from (Fr.refl _ w7).drew)
        obtain ⟨wg, hwd⟩ : ∃ wd, World.drew w7 = wd := ⟨_, rfl⟩
        rw [hwd]
        rw [hwd] at HFg
        clear hwd HSq)
      have HPg := Lib.hid (HP7.out.frF HFg.out)
      have HFwg := Lib.hid (HF7.out.trans HFg.out (fun _ _ e => e))
      have HIg := Lib.hid (HI7.out.fr HFg.out (fun e => e))
      try simp only [List.setIfInBounds_toArray, List.set_cons_succ, List.set_cons_zero]
      refine wpAnyH_all (rs := [4, 9]) (by kernel_rfl) (by simp) ?_
      intro i hi
      simp only [List.mem_cons, List.not_mem_nil, or_false] at hi
      have y3 := HPg.out.cells.2.2.2.1
      rcases hi with rfl | rfl
      · refine wpOp_step rfl (fun K hK => ?_)
        go_simp
        refine hK _ _ ⟨HIg.out, ?_⟩
        clear hK K
        (
          try simp only [List.setIfInBounds_toArray, List.set_cons_succ, List.set_cons_zero]
          refine wpAnyH_all (rs := [9]) (by kernel_rfl) (by simp) ?_
          intro i hi
          simp only [List.mem_cons, List.not_mem_nil, or_false] at hi
          subst hi)
        (
          refine wpOp_step rfl (fun K hK => ?_)
          rw [if_pos (by kernel_rfl)]
          refine wp_build_pls (.tmp 99) rfl ⟨V, XL, sm⟩ HQq.out (by kernel_rfl) ?_
          obtain ⟨wh, hwh⟩ : ∃ wh, wg.alloc (.cells (PPl.cells ⟨V, XL, sm⟩).toArray 56) = wh := ⟨_, rfl⟩
          have HFh := Lib.hid (show Fr (fun _ => False) wg (wg.alloc (.cells (PPl.cells ⟨V, XL, sm⟩).toArray 56)) from (Fr.refl _ _).alloc _)
          have HIh := Lib.hid (show Whole wh idb 48 V from by rw [← hwh]; exact HIg.out.fr HFh.out (fun e => e))
          rw [hwh]
          refine hK _ _ ⟨HIh.out, ?_⟩
          clear hK K)
        (
          subst hwh
          (
            try simp only [List.setIfInBounds_toArray, List.set_cons_succ, List.set_cons_zero]
            refine wpAnyH_all (rs := [10]) (by kernel_rfl) (by simp) ?_
            intro i hi
            simp only [List.mem_cons, List.not_mem_nil, or_false] at hi
            subst hi)
          refine wpOp_step rfl (fun K hK => ?_)
          refine step_append_row _ (by rfl) (.tmp 95) (.tmp 100) 26 26 (by rfl) w0.heap.size 56 i2 (.agg zeroPl) 34 48 Tryz.underlying26 hj hz0 hz1 hz2 zeroPl_cells (.slice AP k cp) k (flatL pls) (by kernel_rfl) (by have := (HPg.out.frF HFh.out).pl; rwa [HPl.out] at this) _ 1 (PPl.cells ⟨V, XL, sm⟩) (by kernel_rfl) (src_pl wg ⟨V, XL, sm⟩ HQq.out) (by unfold maxLen; omega) (by omega) (by have := HFwg.out.size; simp; omega) ?_
          intro v8 w8 o8 g8 at8
          have HFr8 := Lib.hid (show Fr (fun j => Value.ownBlock (.slice AP k cp) = some j) wg w8 from ((Fr.refl _ wg).alloc _).grown g8 (fun j hj _ => hj))
          obtain ⟨A8, c8, hv8, -, -⟩ := own_slice o8
          subst hv8
          have hpp := HPg.out.putPl HQq.out (by rw [HPl.out]; exact o8) HFr8.out
          have HPs := Lib.hid hpp.1
          have HFs := Lib.hid (frAbove HFwg.out hpp.2)
          have HI8 := Lib.hid (show Whole w8 idb 48 V from HIg.out.fr HFr8.out (fun e => own_apart HPg.out.pl HIg.out (by decide) e))
          have hg8 : Whole w8 g 70 _ := HPg.out.whole.fr HFr8.out (fun e => own_apart HPg.out.pl HPg.out.whole (by decide) e)
          have HIs := Lib.hid (show Whole (w8.setCell ⟨g, 3, none⟩ (.slice A8 (k + 1) c8)) idb 48 V from HI8.out.fr (Fr.setCell (S := fun j => j = g) (p := ⟨g, 3, none⟩) (Fr.refl _ w8) (fun _ => rfl) _) (fun e => HI8.out.apart hg8 (by decide) e))
          have y3 : w8.cell? ⟨g, 3, none⟩ = some (.slice AP k cp) := by rw [hg8.cell]; rfl
          have z3 := hg8.frozen 3
          clear o8 g8 at8 hpp hg8
          refine hK _ _ ⟨HI8.out, ?_⟩
          clear hK K
          have HSq := HI8
          (
            refine wpAnyH_takeP (i := 11) (v := .pointer (some ⟨g, 0, none⟩)) 102 rfl rfl (by kernel_rfl) (by kernel_rfl) (by kernel_rfl) (fun _ _ _ h => h) (.inl ⟨by rfl, ?_⟩) HSq.out ?_
            · intro xw xf
              go_simp)
          (
            refine wpAnyH_takeP (i := 12) (v := .pointer (some ⟨g, 3, none⟩)) 103 rfl rfl (by kernel_rfl) (by kernel_rfl) (by kernel_rfl) (fun _ _ _ h => h) (.inl ⟨by rfl, ?_⟩) HSq.out ?_
            · intro xw xf
              go_simp)
          (
            try simp only [List.setIfInBounds_toArray, List.set_cons_succ, List.set_cons_zero]
            refine wpAnyH_all (rs := [13]) (by kernel_rfl) (by simp) ?_
            intro i hi
            simp only [List.mem_cons, List.not_mem_nil, or_false] at hi
            subst hi)
          refine wpOp_step rfl (fun K hK => ?_)
          go_simp
          refine hK _ _ ⟨HIs.out, ?_⟩
          clear hK K
          refine wpAnyH_done (by kernel_rfl) ?_ _
          obtain ⟨ws, hws⟩ : ∃ ws, w8.setCell ⟨g, 3, none⟩ (.slice A8 (k + 1) c8) = ws := ⟨_, rfl⟩
          rw [hws] at HPs HFs ⊢
          clear hws y3 z3 HSq HIs
          obtain ⟨d0, d1, d2, d3, d4⟩ := HPs.out.cells
          have HDp := Lib.hid (show ws.ownsRow w0.heap.size 3 1 (.slice AD k cd) k (intsV ds) from by have := HPs.out.dp; rwa [HDs.out] at this)
          go_wp2_with (at_builtin; refine wpList_append_row _ rfl (.tmp 108) (.tmp 110) 68 68 rfl w0.heap.size 3 i1 (.int .i64 0) 1 8 Tryz.underlying68 gi gz0 gz1 gz2 rfl _ k (intsV ds) rfl (HDp.out.alloc _) _ 1 [.int .i64 0] rfl (src_int _ _) (by unfold maxLen; omega) (by omega) (by have := HFs.out.size; simp; omega) ?_
                       intro v9 w9 o9 g9 at9
                       have HFr9 := Lib.hid (show Fr (fun j => Value.ownBlock (.slice AD k cd) = some j) ws w9 from ((Fr.refl _ ws).alloc _).grown g9 (fun j hj _ => hj))
                       obtain ⟨A9, c9, hv9, -, -⟩ := own_slice o9
                       subst hv9
                       have hpp := HPs.out.putDp (by rw [HDs.out]; exact o9) HFr9.out
                       have HPz := Lib.hid hpp.1
                       have HFz := Lib.hid (frAbove HFs.out hpp.2)
                       have hg9 : Whole w9 g 70 _ := HPs.out.whole.fr HFr9.out (fun e => own_apart HPs.out.dp HPs.out.whole (by decide) e)
                       have y4 : w9.cell? ⟨g, 4, none⟩ = some (.slice AD k cd) := by rw [hg9.cell]; rfl
                       have z4 := hg9.frozen 4
                       clear o9 g9 at9 hpp hg9)
          go_end0
          refine ⟨rfl, v7, .slice A8 (k + 1) c8, .slice A9 (k + 1) c9, ?_, HFz.out⟩
          have hlay : layE xs kk ld none = Y ++ hiB sm 4 4 ++ ld := by
            unfold layE
            simp only
            rw [HLD.out, show crcI ld = sm from HSm.out, HY.out]
          rw [hlay]
          exact HPz.out)
      · (
        refine wpOp_step rfl (fun K hK => ?_)
        rw [if_pos (by kernel_rfl)]
        refine wp_build_pls (.tmp 99) rfl ⟨V, XL, sm⟩ HQq.out (by kernel_rfl) ?_
        obtain ⟨wh, hwh⟩ : ∃ wh, wg.alloc (.cells (PPl.cells ⟨V, XL, sm⟩).toArray 56) = wh := ⟨_, rfl⟩
        have HFh := Lib.hid (show Fr (fun _ => False) wg (wg.alloc (.cells (PPl.cells ⟨V, XL, sm⟩).toArray 56)) from (Fr.refl _ _).alloc _)
        have HIh := Lib.hid (show Whole wh idb 48 V from by rw [← hwh]; exact HIg.out.fr HFh.out (fun e => e))
        rw [hwh]
        refine hK _ _ ⟨HIh.out, ?_⟩
        clear hK K)
        have y3 := (HPg.out.frF HFh.out).cells.2.2.2.1
        rw [hwh] at y3
        (
          try simp only [List.setIfInBounds_toArray, List.set_cons_succ, List.set_cons_zero]
          refine wpAnyH_all (rs := [4]) (by kernel_rfl) (by simp) ?_
          intro i hi
          simp only [List.mem_cons, List.not_mem_nil, or_false] at hi
          subst hi)
        refine wpOp_step rfl (fun K hK => ?_)
        go_simp
        refine hK _ _ ⟨HIh.out, ?_⟩
        clear hK K
        (
          subst hwh
          (
            try simp only [List.setIfInBounds_toArray, List.set_cons_succ, List.set_cons_zero]
            refine wpAnyH_all (rs := [10]) (by kernel_rfl) (by simp) ?_
            intro i hi
            simp only [List.mem_cons, List.not_mem_nil, or_false] at hi
            subst hi)
          refine wpOp_step rfl (fun K hK => ?_)
          refine step_append_row _ (by rfl) (.tmp 95) (.tmp 100) 26 26 (by rfl) w0.heap.size 56 i2 (.agg zeroPl) 34 48 Tryz.underlying26 hj hz0 hz1 hz2 zeroPl_cells (.slice AP k cp) k (flatL pls) (by kernel_rfl) (by have := (HPg.out.frF HFh.out).pl; rwa [HPl.out] at this) _ 1 (PPl.cells ⟨V, XL, sm⟩) (by kernel_rfl) (src_pl wg ⟨V, XL, sm⟩ HQq.out) (by unfold maxLen; omega) (by omega) (by have := HFwg.out.size; simp; omega) ?_
          intro v8 w8 o8 g8 at8
          have HFr8 := Lib.hid (show Fr (fun j => Value.ownBlock (.slice AP k cp) = some j) wg w8 from ((Fr.refl _ wg).alloc _).grown g8 (fun j hj _ => hj))
          obtain ⟨A8, c8, hv8, -, -⟩ := own_slice o8
          subst hv8
          have hpp := HPg.out.putPl HQq.out (by rw [HPl.out]; exact o8) HFr8.out
          have HPs := Lib.hid hpp.1
          have HFs := Lib.hid (frAbove HFwg.out hpp.2)
          have HI8 := Lib.hid (show Whole w8 idb 48 V from HIg.out.fr HFr8.out (fun e => own_apart HPg.out.pl HIg.out (by decide) e))
          have hg8 : Whole w8 g 70 _ := HPg.out.whole.fr HFr8.out (fun e => own_apart HPg.out.pl HPg.out.whole (by decide) e)
          have HIs := Lib.hid (show Whole (w8.setCell ⟨g, 3, none⟩ (.slice A8 (k + 1) c8)) idb 48 V from HI8.out.fr (Fr.setCell (S := fun j => j = g) (p := ⟨g, 3, none⟩) (Fr.refl _ w8) (fun _ => rfl) _) (fun e => HI8.out.apart hg8 (by decide) e))
          have y3 : w8.cell? ⟨g, 3, none⟩ = some (.slice AP k cp) := by rw [hg8.cell]; rfl
          have z3 := hg8.frozen 3
          clear o8 g8 at8 hpp hg8
          refine hK _ _ ⟨HI8.out, ?_⟩
          clear hK K
          have HSq := HI8
          (
            refine wpAnyH_takeP (i := 11) (v := .pointer (some ⟨g, 0, none⟩)) 102 rfl rfl (by kernel_rfl) (by kernel_rfl) (by kernel_rfl) (fun _ _ _ h => h) (.inl ⟨by rfl, ?_⟩) HSq.out ?_
            · intro xw xf
              go_simp)
          (
            refine wpAnyH_takeP (i := 12) (v := .pointer (some ⟨g, 3, none⟩)) 103 rfl rfl (by kernel_rfl) (by kernel_rfl) (by kernel_rfl) (fun _ _ _ h => h) (.inl ⟨by rfl, ?_⟩) HSq.out ?_
            · intro xw xf
              go_simp)
          (
            try simp only [List.setIfInBounds_toArray, List.set_cons_succ, List.set_cons_zero]
            refine wpAnyH_all (rs := [13]) (by kernel_rfl) (by simp) ?_
            intro i hi
            simp only [List.mem_cons, List.not_mem_nil, or_false] at hi
            subst hi)
          refine wpOp_step rfl (fun K hK => ?_)
          go_simp
          refine hK _ _ ⟨HIs.out, ?_⟩
          clear hK K
          refine wpAnyH_done (by kernel_rfl) ?_ _
          obtain ⟨ws, hws⟩ : ∃ ws, w8.setCell ⟨g, 3, none⟩ (.slice A8 (k + 1) c8) = ws := ⟨_, rfl⟩
          rw [hws] at HPs HFs ⊢
          clear hws y3 z3 HSq HIs
          obtain ⟨d0, d1, d2, d3, d4⟩ := HPs.out.cells
          have HDp := Lib.hid (show ws.ownsRow w0.heap.size 3 1 (.slice AD k cd) k (intsV ds) from by have := HPs.out.dp; rwa [HDs.out] at this)
          go_wp2_with (at_builtin; refine wpList_append_row _ rfl (.tmp 108) (.tmp 110) 68 68 rfl w0.heap.size 3 i1 (.int .i64 0) 1 8 Tryz.underlying68 gi gz0 gz1 gz2 rfl _ k (intsV ds) rfl (HDp.out.alloc _) _ 1 [.int .i64 0] rfl (src_int _ _) (by unfold maxLen; omega) (by omega) (by have := HFs.out.size; simp; omega) ?_
                       intro v9 w9 o9 g9 at9
                       have HFr9 := Lib.hid (show Fr (fun j => Value.ownBlock (.slice AD k cd) = some j) ws w9 from ((Fr.refl _ ws).alloc _).grown g9 (fun j hj _ => hj))
                       obtain ⟨A9, c9, hv9, -, -⟩ := own_slice o9
                       subst hv9
                       have hpp := HPs.out.putDp (by rw [HDs.out]; exact o9) HFr9.out
                       have HPz := Lib.hid hpp.1
                       have HFz := Lib.hid (frAbove HFs.out hpp.2)
                       have hg9 : Whole w9 g 70 _ := HPs.out.whole.fr HFr9.out (fun e => own_apart HPs.out.dp HPs.out.whole (by decide) e)
                       have y4 : w9.cell? ⟨g, 4, none⟩ = some (.slice AD k cd) := by rw [hg9.cell]; rfl
                       have z4 := hg9.frozen 4
                       clear o9 g9 at9 hpp hg9)
          go_end0
          refine ⟨rfl, v7, .slice A8 (k + 1) c8, .slice A9 (k + 1) c9, ?_, HFz.out⟩
          have hlay : layE xs kk ld none = Y ++ hiB sm 4 4 ++ ld := by
            unfold layE
            simp only
            rw [HLD.out, show crcI ld = sm from HSm.out, HY.out]
          rw [hlay]
          exact HPz.out))
    --E
  | some b =>
    have hbk := HOb.out b rfl
    simp only [Option.isNone_some, obI, Option.map_some] at HLd1 ⊢
    obtain ⟨pb, hpb⟩ : ∃ pb, pls[b]? = some pb := ⟨_, List.getElem?_eq_getElem (by have := HPl.out; omega)⟩
    have hpbm := List.mem_of_getElem? hpb
    have hatb := HAt.out pb hpbm
    rw [HXL.out] at hatb
    obtain ⟨atb, hatb2⟩ : ∃ atb, pb.at' = atb := ⟨_, rfl⟩
    obtain ⟨pg, hpg⟩ : ∃ pg, AP = some ⟨pg, 0, none⟩ := by
      rcases own_shape HP1.out.pl with ⟨hv, h1, _⟩ | ⟨pg, cap, hv, _, _, _⟩
      · have := HPl.out; omega
      · injection hv with e1 _ _; exact ⟨pg, e1⟩
    obtain ⟨dg, hdg⟩ : ∃ dg, AD = some ⟨dg, 0, none⟩ := by
      rcases own_shape HP1.out.dp with ⟨hv, h1, _⟩ | ⟨dg, cap, hv, _, _, _⟩
      · have := HDs.out; omega
      · injection hv with e1 _ _; exact ⟨dg, e1⟩
    subst hpg; subst hdg
    obtain ⟨db, hdb⟩ : ∃ db, ds.getD b 0 = db := ⟨_, rfl⟩
    have hdr : 0 ≤ db ∧ db ≤ 8 := by
      rw [← hdb, List.getD_eq_getElem?_getD, List.getElem?_eq_getElem (by have := HDs.out; omega)]
      exact HDd.out _ (List.getElem_mem _)
    obtain ⟨hdr0, hdr1⟩ := hdr
    obtain ⟨D, hD⟩ : ∃ D, XL - atb = D := ⟨_, rfl⟩
    rw [hpb, hdb]
    simp only [Option.map_some, Option.getD_some]
    rw [hatb2] at hatb ⊢
    rw [hD]
    have HCb := Lib.hid (fun w' v' xs' (h : Pk w0.heap.size w' g v' (.slice (some ⟨pg, 0, none⟩) k cp) (.slice (some ⟨dg, 0, none⟩) k cd) xs' (some ⟨ab, ao, none⟩) L c chain pls ds) => (by
      have ho := h.pl
      rw [HPl.out] at ho
      rw [World.ownsRow.cellAt ho (b * 34 + 32) (by omega), flatL_get pls h.ok b 32 pb hpb (by decide), pl_at pb (h.ok pb hpbm), hatb2] : w'.cell? ⟨pg, b * 34 + 32, none⟩ = some (.int .i64 atb)))
    have HCd := Lib.hid (fun w' v' xs' (h : Pk w0.heap.size w' g v' (.slice (some ⟨pg, 0, none⟩) k cp) (.slice (some ⟨dg, 0, none⟩) k cd) xs' (some ⟨ab, ao, none⟩) L c chain pls ds) => (by
      have ho := h.dp
      rw [HDs.out] at ho
      rw [World.ownsRow.cellAt ho b (by omega), intsV, List.getElem?_map, ← hdb, List.getD_eq_getElem?_getD, List.getElem?_eq_getElem (by have := HDs.out; omega)]
      rfl : w'.cell? ⟨dg, b, none⟩ = some (.int .i64 db)))
    have hbK : (b : Int) < k := by omega
    have hwD : IntKind.i64.wrap ((XL : Int) - atb) = D := by rw [IntKind.wrap_i64]; omega
    have hwu : IntKind.u64.wrap (D : Int) = D := by rw [IntKind.wrap_u64]; omega
    have hwd1 : IntKind.i64.wrap (db + 1) = db + 1 := by rw [IntKind.wrap_i64]; omega
    have hDb : (D : Int) ≤ 2000000 := by omega
    clear hpb hpbm hatb2 hdb hD hbk
    go_enter Tryz.func24, Tryz.ntmps24
    go_upto_region 7 with (
      (first
        | (go_at_call 46; refine HLd1.out.mono ?_; rintro e w2 ⟨A2, c2, rfl, l2, m2, y2, n2, b2⟩; have HC2 := Lib.hid (And.intro l2 m2); have HL2 := Lib.hid y2; have HNe := Lib.hid n2; have HF2 := Lib.hid (HF1.out.then_below b2); have HP2 := Lib.hid (HP1.out.frF (Fr.of_below (S := fun _ => False) b2)); have HI2 := Lib.hid (HI1.out.fr (Fr.of_below (S := fun _ => False) b2) (fun e => e)); clear l2 m2 y2 n2 b2)
        | (go_at_call 25; refine hlen.out.mono ?_; rintro e wx ⟨rfl, rfl⟩)))
    (
      obtain ⟨N, hN⟩ : ∃ N, w2.heap.size = N := ⟨_, rfl⟩
      have HN := Lib.hid hN
      have HA2 := Lib.hid (show Ap w0.heap.size N A2 ld g v from by
        rcases lies_under HL2.out with h | h
        · exact .inl h
        · rcases HNe.out with h2 | h2
          · exact .inl h2
          · refine .inr (fun ad e => ?_)
            rcases h2 ad e with h3 | h3
            · exact .inl h3
            · have h4 := HP1.out.whole.lt
              refine .inr ⟨by have := h ad e; omega, by omega, fun e2 => ?_⟩
              have := (World.ownsRow.lt HP1.out.wr.2 _ e2).2
              omega)
      have HFw2 := Lib.hid (HF0.out.trans HF2.out (fun _ _ e => e))
      clear hN)
    have HPd := HP2
    have HFwd := HFw2
    have HLd2 := HL2
    have HId := HI2
    have HNd := Lib.hid (show N ≤ w2.heap.size from by have := HN.out; omega)
    have HWB := Lib.hid (WByte_any g v xs 5 w2 HPd.out.wr (by omega) (by omega) (by have := HX.out; omega))
    unfold WPost WTo at HWB
    rw [show toB 5 = 5 from rfl] at HWB
    go_upto_region 8 with (go_at_call 47; refine HWB.out.mono ?_; rintro e w3 ⟨rfl, v3, r3, s3⟩; (
      (have hpw := HPd.out.wrote HFwd.out.size r3 s3; have hap := HA2.out.step HLd2.out s3 HNd.out HPd.out.lo HPd.out.vo; have HP3 := Lib.hid hpw.1; have HF3 := Lib.hid (frAbove HFwd.out hpw.2); have HL3 := Lib.hid hap.1; have HA3 := Lib.hid hap.2; have HI3 := Lib.hid (HId.out.fr s3.fr (fun e => by rcases e with e | e; exact (HId.out.apart HPd.out.whole (by decide)) e; exact own_apart HPd.out.wr.2 HId.out (by decide) e)); have HN3 := Lib.hid (show N ≤ w3.heap.size from by have := s3.fr.size; have := HNd.out; omega); clear hpw hap r3 s3)))
    have HWV := Lib.hid (WVar_any g v3 (xs ++ [5]) LD w3 HP3.out.wr (by omega) (by omega) (by rw [List.length_append]; have := HX.out; simp; omega))
    unfold WPost WTo at HWV
    rw [Int.toNat_natCast] at HWV
    go_upto_region 9 with (go_at_call 48; refine HWV.out.mono ?_; rintro e w4 ⟨rfl, v4, r4, s4⟩; (
      (have hpw := HP3.out.wrote HF3.out.size r4 s4; have hap := HA3.out.step HL3.out s4 HN3.out HP3.out.lo HP3.out.vo; have HP4 := Lib.hid hpw.1; have HF4 := Lib.hid (frAbove HF3.out hpw.2); have HL4 := Lib.hid hap.1; have HA4 := Lib.hid hap.2; have HI4 := Lib.hid (HI3.out.fr s4.fr (fun e => by rcases e with e | e; exact (HI3.out.apart HP3.out.whole (by decide)) e; exact own_apart HP3.out.wr.2 HI3.out (by decide) e)); have HN4 := Lib.hid (show N ≤ w4.heap.size from by have := s4.fr.size; have := HN3.out; omega); clear hpw hap r4 s4)))
    refine wp_region_held (S := fun w' => w'.cell? ⟨g, 3, none⟩ = some (.slice (some ⟨pg, 0, none⟩) k cp) ∧ w'.cell? ⟨pg, b * 34 + 32, none⟩ = some (.int .i64 atb)) (by kernel_rfl) ?_
    have HSq := Lib.hid (show (World.drew w4).cell? ⟨g, 3, none⟩ = some (.slice (some ⟨pg, 0, none⟩) k cp) ∧ (World.drew w4).cell? ⟨pg, b * 34 + 32, none⟩ = some (.int .i64 atb) from ⟨HP4.out.cells.2.2.2.1, HCb.out w4 _ _ HP4.out⟩)
    (
      refine wpAnyH_takeP (i := 0) (v := .pointer (some ⟨g, 0, none⟩)) 55 rfl rfl (by kernel_rfl) (by kernel_rfl) (by kernel_rfl) (fun _ _ _ h => h) (.inl ⟨by rfl, ?_⟩) HSq.out ?_
      · intro xw xf
        go_simp)
    (
      refine wpAnyH_takeP (i := 1) (v := .pointer (some ⟨g, 0, none⟩)) 56 rfl rfl (by kernel_rfl) (by kernel_rfl) (by kernel_rfl) (fun _ _ _ h => h) (.inl ⟨by rfl, ?_⟩) HSq.out ?_
      · intro xw xf
        go_simp)
    (
      refine wpAnyH_takeP (i := 2) (v := .pointer (some ⟨g, 0, none⟩)) 57 rfl rfl (by kernel_rfl) (by kernel_rfl) (by kernel_rfl) (fun _ _ _ h => h) (.inl ⟨by rfl, ?_⟩) HSq.out ?_
      · intro xw xf
        go_simp)
    (
      refine wpAnyH_takeP (i := 3) (v := .int .i64 XL) 58 rfl rfl (by kernel_rfl) (by kernel_rfl) (by kernel_rfl) (fun _ _ _ h => h) (.inl ⟨by rfl, ?_⟩) HSq.out ?_
      · intro xw xf
        go_simp)
    (
      refine wpAnyH_takeP (i := 4) (v := .pointer (some ⟨g, 0, none⟩)) 59 rfl rfl (by kernel_rfl) (by kernel_rfl) (by kernel_rfl) (fun _ _ _ h => h) (.inl ⟨by rfl, ?_⟩) HSq.out ?_
      · intro xw xf
        go_simp)
    (
      refine wpAnyH_takeP (i := 5) (v := .pointer (some ⟨g, 0, none⟩)) 60 rfl rfl (by kernel_rfl) (by kernel_rfl) (by kernel_rfl) (fun _ _ _ h => h) (.inl ⟨by rfl, ?_⟩) HSq.out ?_
      · intro xw xf
        go_simp)
    (
      refine wpAnyH_takeP (i := 6) (v := .pointer (some ⟨g, 3, none⟩)) 61 rfl rfl (by kernel_rfl) (by kernel_rfl) (by kernel_rfl) (fun _ _ _ h => h) (.inl ⟨by rfl, ?_⟩) HSq.out ?_
      · intro xw xf
        go_simp)
    (
      refine wpAnyH_takeP (i := 7) (v := .slice (some ⟨pg, 0, none⟩) k cp) 62 rfl rfl (by kernel_rfl) (by kernel_rfl) (by kernel_rfl) (fun _ _ _ h => h) (.inl ⟨by rfl, ?_⟩) HSq.out ?_
      · rintro xw ⟨xf, xg⟩
        go_simp)
    (
      refine wpAnyH_takeP (i := 8) (v := .int .i64 b) 63 rfl rfl (by kernel_rfl) (by kernel_rfl) (by kernel_rfl) (fun _ _ _ h => h) (.inl ⟨by rfl, ?_⟩) HSq.out ?_
      · intro xw xf
        go_simp)
    (
      refine wpAnyH_takeP (i := 9) (v := .pointer (some ⟨pg, b * 34, none⟩)) 64 rfl rfl (by kernel_rfl) (by kernel_rfl) (by kernel_rfl) (fun _ _ _ h => h) (.inl ⟨by rfl, ?_⟩) HSq.out ?_
      · intro xw xf
        go_simp)
    (
      refine wpAnyH_takeP (i := 10) (v := .pointer (some ⟨pg, b * 34 + 32, none⟩)) 65 rfl rfl (by kernel_rfl) (by kernel_rfl) (by kernel_rfl) (fun _ _ _ h => h) (.inl ⟨by rfl, ?_⟩) HSq.out ?_
      · intro xw xf
        go_simp)
    (
      refine wpAnyH_takeP (i := 11) (v := .int .i64 atb) 66 rfl rfl (by kernel_rfl) (by kernel_rfl) (by kernel_rfl) (fun _ _ _ h => h) (.inl ⟨by rfl, ?_⟩) HSq.out ?_
      · rintro xw ⟨xf, xg⟩
        go_simp)
    (
      refine wpAnyH_takeP (i := 12) (v := .int .i64 D) 67 rfl rfl (by kernel_rfl) (by kernel_rfl) (by kernel_rfl) (fun _ _ _ h => h) (.inl ⟨by rfl, ?_⟩) HSq.out ?_
      · intro xw xf
        go_simp)
    (
      refine wpAnyH_takeP (i := 13) (v := .int .u64 D) 68 rfl rfl (by kernel_rfl) (by kernel_rfl) (by kernel_rfl) (fun _ _ _ h => h) (.inl ⟨by rfl, ?_⟩) HSq.out ?_
      · intro xw xf
        go_simp)
    (
      change wpAnyH _ _ _ _ _ _ _ _ (World.drew w4)
      have HFd := Lib.hid (show Fr (fun _ => False) w4 (World.drew w4) from (Fr.refl _ w4).drew)
      obtain ⟨wd, hwd⟩ : ∃ wd, World.drew w4 = wd := ⟨_, rfl⟩
      rw [hwd]
      rw [hwd] at HFd
      clear hwd HSq)
    have HPe := Lib.hid (HP4.out.frF HFd.out)
    have HFe := Lib.hid (HF4.out.trans HFd.out (fun _ _ e => e))
    have HLe := Lib.hid (HL4.out.fr HFd.out (fun _ _ e => e))
    have HIe := Lib.hid (HI4.out.fr HFd.out (fun e => e))
    have HNe2 := Lib.hid (show N ≤ wd.heap.size from by have := HFd.out.size; have := HN4.out; omega)
    have HW2 := Lib.hid (WVar_any g v4 (xs ++ [5] ++ varB LD) D wd HPe.out.wr (by omega) (by omega) (by have := varB_length LD; simp only [List.length_append, List.length_cons, List.length_nil]; have := HX.out; omega))
    unfold WPost WTo at HW2
    rw [Int.toNat_natCast] at HW2
    (
      try simp only [List.setIfInBounds_toArray, List.set_cons_succ, List.set_cons_zero]
      refine wpAnyH_all (rs := [14]) (by kernel_rfl) (by simp) ?_
      intro i hi
      simp only [List.mem_cons, List.not_mem_nil, or_false] at hi
      subst hi)
    refine wpOp_step rfl (fun K hK => ?_)
    go_simp
    go_wp2_with (go_at_call 48; refine HW2.out.mono ?_; rintro e wy ⟨rfl, vy, r4, s4⟩; (
      (have hpw := HPe.out.wrote HFe.out.size r4 s4; have hap := HA4.out.step HLe.out s4 HNe2.out HPe.out.lo HPe.out.vo; have HPy := Lib.hid hpw.1; have HFy := Lib.hid (frAbove HFe.out hpw.2); have HLy := Lib.hid hap.1; have HAy := Lib.hid hap.2; have HIy := Lib.hid (HIe.out.fr s4.fr (fun e => by rcases e with e | e; exact (HIe.out.apart HPe.out.whole (by decide)) e; exact own_apart HPe.out.wr.2 HIe.out (by decide) e)); have HNy := Lib.hid (show N ≤ wy.heap.size from by have := s4.fr.size; have := HNe2.out; omega); clear hpw hap r4 s4)))
    refine ⟨⟨HPy.out.cells.2.2.2.1, HCb.out wy _ _ HPy.out⟩, ?_⟩
    refine wpAnyH_done (by kernel_rfl) ?_ _
    have q4 := HPy.out.cells.2.2.2.2
    have qd := HCd.out wy _ _ HPy.out
    go_upto_region 11 with fail
    clear q4 qd
    (
      obtain ⟨Y, hY⟩ : ∃ Y, (xs ++ [5] ++ varB LD ++ varB D) = Y := ⟨_, rfl⟩
      have hYl : Y.length ≤ 2000030 := by
        rw [← hY]
        have := varB_length LD
        have := varB_length D
        have := HX.out
        simp only [List.length_append, List.length_cons, List.length_nil]
        omega
      have HY := Lib.hid hY
      rw [hY] at HPy
      clear hY
      have HCo := Lib.hid (by
        have h1 := COf_any (some ⟨wy.heap.size, 0, none⟩) 1 [ld] _ (parts1 wy ld A2 c2 LD HLD.out HC2.out.1 HLy.out) (by show 1 ≤ 9223372036854775807; decide) (by simp; have := HLD.out; omega)
        simp only [List.flatten_cons, List.flatten_nil, List.append_nil] at h1
        rw [show rI (more 0#32 ld) = sm from HSm.out] at h1
        exact h1 : Calls Tryz.prog 49 #[.slice (some ⟨wy.heap.size, 0, none⟩) 1 1] (World.alloc wy (.cells #[.slice A2 LD c2] 25)) fun e w' => e = .returned (.int .u32 sm) ∧ Below (World.alloc wy (.cells #[.slice A2 LD c2] 25)).heap.size (World.alloc wy (.cells #[.slice A2 LD c2] 25)) w')
      go_upto_region 12 with (go_at_call 49; refine HCo.out.mono ?_; rintro e w5 ⟨rfl, b5⟩; have HF45 := Lib.hid (((Fr.refl (fun _ => False) wy).alloc (.cells #[.slice A2 LD c2] 25)).then_below b5); clear b5)
      have HP5 := Lib.hid (HPy.out.frF HF45.out)
      have HF5 := Lib.hid (HFy.out.trans HF45.out (fun _ _ e => e))
      have HL5 := Lib.hid (HLy.out.fr HF45.out (fun _ _ e => e))
      have HI5 := Lib.hid (HIy.out.fr HF45.out (fun e => e))
      have HN5 := Lib.hid (show N ≤ w5.heap.size from by have := HF45.out.size; have := HNy.out; omega)
      have HU := Lib.hid (WU32_any g vy Y sm w5 HP5.out.wr hs0 hs1 (by omega))
      unfold WPost WTo at HU
      go_upto_region 13 with (go_at_call 45; refine HU.out.mono ?_; rintro e w6 ⟨rfl, v6, r6, s6⟩; have hpw := HP5.out.wrote HF5.out.size r6 s6; have hap := HAy.out.step HL5.out s6 HN5.out HP5.out.lo HP5.out.vo; have HP6 := Lib.hid hpw.1; have HF6 := Lib.hid (frAbove HF5.out hpw.2); have HL6 := Lib.hid hap.1; have HI6 := Lib.hid (HI5.out.fr s6.fr (fun e => by rcases e with e | e; exact (HI5.out.apart HP5.out.whole (by decide)) e; exact own_apart HP5.out.wr.2 HI5.out (by decide) e)); clear hpw hap r6 s6)
      have HRa := Lib.hid (WRaw_n g v6 (Y ++ hiB sm 4 4) ld A2 c2 LD w6 HLD.out HP6.out.wr HL6.out (by rw [List.length_append, hiB_length, HLD.out]; omega))
      unfold WPost WTo at HRa
      go_upto_region 14 with (go_at_call 44; refine HRa.out.mono ?_; rintro e w7 ⟨rfl, v7, r7, s7⟩; have hpw := HP6.out.wrote HF6.out.size r7 s7; have HP7 := Lib.hid hpw.1; have HF7 := Lib.hid (frAbove HF6.out hpw.2); have HI7 := Lib.hid (HI6.out.fr s7.fr (fun e => by rcases e with e | e; exact (HI6.out.apart HP6.out.whole (by decide)) e; exact own_apart HP6.out.wr.2 HI6.out (by decide) e)); clear hpw r7 s7)
      obtain ⟨idb, hidb⟩ : ∃ idb, w.heap.size = idb := ⟨_, rfl⟩
      rw [hidb] at HI7 ⊢
      have HQq := Lib.hid (show (⟨V, XL, sm⟩ : PPl).Ok from ⟨HV.out.1, HV.out.2⟩)
      clear hidb
      have HQV := Lib.hid (show Whole (World.drew w7) idb 48 V from HI7.out)
      refine wp_region_held (S := fun w' => Whole w' idb 48 V) (by kernel_rfl) ?_
      have HSq := HQV
      (
        refine wpAnyH_takeP (i := 0) (v := .pointer (some ⟨g, 0, none⟩)) 91 rfl rfl (by kernel_rfl) (by kernel_rfl) (by kernel_rfl) (fun _ _ _ h => h) (.inl ⟨by rfl, ?_⟩) HSq.out ?_
        · intro xw xf
          go_simp)
      (
        refine wpAnyH_takeP (i := 1) (v := .pointer (some ⟨g, 0, none⟩)) 92 rfl rfl (by kernel_rfl) (by kernel_rfl) (by kernel_rfl) (fun _ _ _ h => h) (.inl ⟨by rfl, ?_⟩) HSq.out ?_
        · intro xw xf
          go_simp)
      (
        refine wpAnyH_takeP (i := 2) (v := .pointer (some ⟨g, 0, none⟩)) 93 rfl rfl (by kernel_rfl) (by kernel_rfl) (by kernel_rfl) (fun _ _ _ h => h) (.inl ⟨by rfl, ?_⟩) HSq.out ?_
        · intro xw xf
          go_simp)
      (
        refine wpAnyH_takeP (i := 3) (v := .pointer (some ⟨g, 3, none⟩)) 94 rfl rfl (by kernel_rfl) (by kernel_rfl) (by kernel_rfl) (fun _ _ _ h => h) (.inl ⟨by rfl, ?_⟩) HSq.out ?_
        · intro xw xf
          go_simp)
      refine wpAnyH_takeP (i := 5) (v := .agg V) 96 rfl rfl (by kernel_rfl) (by kernel_rfl) (by kernel_rfl) (fun _ _ _ h => h) (yieldsIf_load_id (by kernel_rfl) (.tmp 5) rfl idb (by kernel_rfl) V HV.out.1 (fun _ h => h)) HSq.out ?_
      (
        refine wpAnyH_takeP (i := 6) (v := .int .i64 XL) 97 rfl rfl (by kernel_rfl) (by kernel_rfl) (by kernel_rfl) (fun _ _ _ h => h) (.inl ⟨by rfl, ?_⟩) HSq.out ?_
        · intro xw xf
          go_simp)
      (
        refine wpAnyH_takeP (i := 7) (v := .int .u32 sm) 98 rfl rfl (by kernel_rfl) (by kernel_rfl) (by kernel_rfl) (fun _ _ _ h => h) (.inl ⟨by rfl, ?_⟩) HSq.out ?_
        · intro xw xf
          go_simp)
      refine wpAnyH_takeP (i := 8) (v := .agg (PPl.cells ⟨V, XL, sm⟩).toArray) 99 rfl rfl (by kernel_rfl) (by kernel_rfl) (by kernel_rfl) (fun _ _ _ h => h) (yieldsIf_build (by kernel_rfl) 56 _ rfl #[(0, .agg V), (1, .int .i64 XL), (2, .int .u32 sm)] (by kernel_rfl) _ (build_pl ⟨V, XL, sm⟩ HV.out.1)) HSq.out ?_
      (
        change wpAnyH _ _ _ _ _ _ _ _ (World.drew w7)
        have HFg := Lib.hid (show Fr (fun _ => False) w7 (World.drew w7) from (Fr.refl _ w7).drew)
        obtain ⟨wg, hwd⟩ : ∃ wd, World.drew w7 = wd := ⟨_, rfl⟩
        rw [hwd]
        rw [hwd] at HFg
        clear hwd HSq)
      have HPg := Lib.hid (HP7.out.frF HFg.out)
      have HFwg := Lib.hid (HF7.out.trans HFg.out (fun _ _ e => e))
      have HIg := Lib.hid (HI7.out.fr HFg.out (fun e => e))
      try simp only [List.setIfInBounds_toArray, List.set_cons_succ, List.set_cons_zero]
      refine wpAnyH_all (rs := [4, 9]) (by kernel_rfl) (by simp) ?_
      intro i hi
      simp only [List.mem_cons, List.not_mem_nil, or_false] at hi
      have y3 := HPg.out.cells.2.2.2.1
      rcases hi with rfl | rfl
      · refine wpOp_step rfl (fun K hK => ?_)
        go_simp
        refine hK _ _ ⟨HIg.out, ?_⟩
        clear hK K
        (
          try simp only [List.setIfInBounds_toArray, List.set_cons_succ, List.set_cons_zero]
          refine wpAnyH_all (rs := [9]) (by kernel_rfl) (by simp) ?_
          intro i hi
          simp only [List.mem_cons, List.not_mem_nil, or_false] at hi
          subst hi)
        (
          refine wpOp_step rfl (fun K hK => ?_)
          rw [if_pos (by kernel_rfl)]
          refine wp_build_pls (.tmp 99) rfl ⟨V, XL, sm⟩ HQq.out (by kernel_rfl) ?_
          obtain ⟨wh, hwh⟩ : ∃ wh, wg.alloc (.cells (PPl.cells ⟨V, XL, sm⟩).toArray 56) = wh := ⟨_, rfl⟩
          have HFh := Lib.hid (show Fr (fun _ => False) wg (wg.alloc (.cells (PPl.cells ⟨V, XL, sm⟩).toArray 56)) from (Fr.refl _ _).alloc _)
          have HIh := Lib.hid (show Whole wh idb 48 V from by rw [← hwh]; exact HIg.out.fr HFh.out (fun e => e))
          rw [hwh]
          refine hK _ _ ⟨HIh.out, ?_⟩
          clear hK K)
        (
          subst hwh
          (
            try simp only [List.setIfInBounds_toArray, List.set_cons_succ, List.set_cons_zero]
            refine wpAnyH_all (rs := [10]) (by kernel_rfl) (by simp) ?_
            intro i hi
            simp only [List.mem_cons, List.not_mem_nil, or_false] at hi
            subst hi)
          refine wpOp_step rfl (fun K hK => ?_)
          refine step_append_row _ (by rfl) (.tmp 95) (.tmp 100) 26 26 (by rfl) w0.heap.size 56 i2 (.agg zeroPl) 34 48 Tryz.underlying26 hj hz0 hz1 hz2 zeroPl_cells (.slice (some ⟨pg, 0, none⟩) k cp) k (flatL pls) (by kernel_rfl) (by have := (HPg.out.frF HFh.out).pl; rwa [HPl.out] at this) _ 1 (PPl.cells ⟨V, XL, sm⟩) (by kernel_rfl) (src_pl wg ⟨V, XL, sm⟩ HQq.out) (by unfold maxLen; omega) (by omega) (by have := HFwg.out.size; simp; omega) ?_
          intro v8 w8 o8 g8 at8
          have HFr8 := Lib.hid (show Fr (fun j => Value.ownBlock (.slice (some ⟨pg, 0, none⟩) k cp) = some j) wg w8 from ((Fr.refl _ wg).alloc _).grown g8 (fun j hj _ => hj))
          obtain ⟨A8, c8, hv8, -, -⟩ := own_slice o8
          subst hv8
          have hpp := HPg.out.putPl HQq.out (by rw [HPl.out]; exact o8) HFr8.out
          have HPs := Lib.hid hpp.1
          have HFs := Lib.hid (frAbove HFwg.out hpp.2)
          have HI8 := Lib.hid (show Whole w8 idb 48 V from HIg.out.fr HFr8.out (fun e => own_apart HPg.out.pl HIg.out (by decide) e))
          have hg8 : Whole w8 g 70 _ := HPg.out.whole.fr HFr8.out (fun e => own_apart HPg.out.pl HPg.out.whole (by decide) e)
          have HIs := Lib.hid (show Whole (w8.setCell ⟨g, 3, none⟩ (.slice A8 (k + 1) c8)) idb 48 V from HI8.out.fr (Fr.setCell (S := fun j => j = g) (p := ⟨g, 3, none⟩) (Fr.refl _ w8) (fun _ => rfl) _) (fun e => HI8.out.apart hg8 (by decide) e))
          have y3 : w8.cell? ⟨g, 3, none⟩ = some (.slice (some ⟨pg, 0, none⟩) k cp) := by rw [hg8.cell]; rfl
          have z3 := hg8.frozen 3
          clear o8 g8 at8 hpp hg8
          refine hK _ _ ⟨HI8.out, ?_⟩
          clear hK K
          have HSq := HI8
          (
            refine wpAnyH_takeP (i := 11) (v := .pointer (some ⟨g, 0, none⟩)) 102 rfl rfl (by kernel_rfl) (by kernel_rfl) (by kernel_rfl) (fun _ _ _ h => h) (.inl ⟨by rfl, ?_⟩) HSq.out ?_
            · intro xw xf
              go_simp)
          (
            refine wpAnyH_takeP (i := 12) (v := .pointer (some ⟨g, 3, none⟩)) 103 rfl rfl (by kernel_rfl) (by kernel_rfl) (by kernel_rfl) (fun _ _ _ h => h) (.inl ⟨by rfl, ?_⟩) HSq.out ?_
            · intro xw xf
              go_simp)
          (
            try simp only [List.setIfInBounds_toArray, List.set_cons_succ, List.set_cons_zero]
            refine wpAnyH_all (rs := [13]) (by kernel_rfl) (by simp) ?_
            intro i hi
            simp only [List.mem_cons, List.not_mem_nil, or_false] at hi
            subst hi)
          refine wpOp_step rfl (fun K hK => ?_)
          go_simp
          refine hK _ _ ⟨HIs.out, ?_⟩
          clear hK K
          refine wpAnyH_done (by kernel_rfl) ?_ _
          obtain ⟨ws, hws⟩ : ∃ ws, w8.setCell ⟨g, 3, none⟩ (.slice A8 (k + 1) c8) = ws := ⟨_, rfl⟩
          rw [hws] at HPs HFs ⊢
          clear hws y3 z3 HSq HIs
          obtain ⟨d0, d1, d2, d3, d4⟩ := HPs.out.cells
          have HDp := Lib.hid (show ws.ownsRow w0.heap.size 3 1 (.slice (some ⟨dg, 0, none⟩) k cd) k (intsV ds) from by have := HPs.out.dp; rwa [HDs.out] at this)
          go_wp2_with (at_builtin; refine wpList_append_row _ rfl (.tmp 108) (.tmp 110) 68 68 rfl w0.heap.size 3 i1 (.int .i64 0) 1 8 Tryz.underlying68 gi gz0 gz1 gz2 rfl _ k (intsV ds) rfl (HDp.out.alloc _) _ 1 [.int .i64 (db + 1)] rfl (src_int _ _) (by unfold maxLen; omega) (by omega) (by have := HFs.out.size; simp; omega) ?_
                       intro v9 w9 o9 g9 at9
                       have HFr9 := Lib.hid (show Fr (fun j => Value.ownBlock (.slice (some ⟨dg, 0, none⟩) k cd) = some j) ws w9 from ((Fr.refl _ ws).alloc _).grown g9 (fun j hj _ => hj))
                       obtain ⟨A9, c9, hv9, -, -⟩ := own_slice o9
                       subst hv9
                       have hpp := HPs.out.putDp (by rw [HDs.out]; exact o9) HFr9.out
                       have HPz := Lib.hid hpp.1
                       have HFz := Lib.hid (frAbove HFs.out hpp.2)
                       have hg9 : Whole w9 g 70 _ := HPs.out.whole.fr HFr9.out (fun e => own_apart HPs.out.dp HPs.out.whole (by decide) e)
                       have y4 : w9.cell? ⟨g, 4, none⟩ = some (.slice (some ⟨dg, 0, none⟩) k cd) := by rw [hg9.cell]; rfl
                       have z4 := hg9.frozen 4
                       clear o9 g9 at9 hpp hg9)
          go_end0
          refine ⟨rfl, v7, .slice A8 (k + 1) c8, .slice A9 (k + 1) c9, ?_, HFz.out⟩
          have hlay : layE xs kk ld (some D) = Y ++ hiB sm 4 4 ++ ld := by
            unfold layE
            simp only
            rw [HLD.out, show crcI ld = sm from HSm.out, HY.out]
          rw [hlay]
          exact HPz.out)
      · (
        refine wpOp_step rfl (fun K hK => ?_)
        rw [if_pos (by kernel_rfl)]
        refine wp_build_pls (.tmp 99) rfl ⟨V, XL, sm⟩ HQq.out (by kernel_rfl) ?_
        obtain ⟨wh, hwh⟩ : ∃ wh, wg.alloc (.cells (PPl.cells ⟨V, XL, sm⟩).toArray 56) = wh := ⟨_, rfl⟩
        have HFh := Lib.hid (show Fr (fun _ => False) wg (wg.alloc (.cells (PPl.cells ⟨V, XL, sm⟩).toArray 56)) from (Fr.refl _ _).alloc _)
        have HIh := Lib.hid (show Whole wh idb 48 V from by rw [← hwh]; exact HIg.out.fr HFh.out (fun e => e))
        rw [hwh]
        refine hK _ _ ⟨HIh.out, ?_⟩
        clear hK K)
        have y3 := (HPg.out.frF HFh.out).cells.2.2.2.1
        rw [hwh] at y3
        (
          try simp only [List.setIfInBounds_toArray, List.set_cons_succ, List.set_cons_zero]
          refine wpAnyH_all (rs := [4]) (by kernel_rfl) (by simp) ?_
          intro i hi
          simp only [List.mem_cons, List.not_mem_nil, or_false] at hi
          subst hi)
        refine wpOp_step rfl (fun K hK => ?_)
        go_simp
        refine hK _ _ ⟨HIh.out, ?_⟩
        clear hK K
        (
          subst hwh
          (
            try simp only [List.setIfInBounds_toArray, List.set_cons_succ, List.set_cons_zero]
            refine wpAnyH_all (rs := [10]) (by kernel_rfl) (by simp) ?_
            intro i hi
            simp only [List.mem_cons, List.not_mem_nil, or_false] at hi
            subst hi)
          refine wpOp_step rfl (fun K hK => ?_)
          refine step_append_row _ (by rfl) (.tmp 95) (.tmp 100) 26 26 (by rfl) w0.heap.size 56 i2 (.agg zeroPl) 34 48 Tryz.underlying26 hj hz0 hz1 hz2 zeroPl_cells (.slice (some ⟨pg, 0, none⟩) k cp) k (flatL pls) (by kernel_rfl) (by have := (HPg.out.frF HFh.out).pl; rwa [HPl.out] at this) _ 1 (PPl.cells ⟨V, XL, sm⟩) (by kernel_rfl) (src_pl wg ⟨V, XL, sm⟩ HQq.out) (by unfold maxLen; omega) (by omega) (by have := HFwg.out.size; simp; omega) ?_
          intro v8 w8 o8 g8 at8
          have HFr8 := Lib.hid (show Fr (fun j => Value.ownBlock (.slice (some ⟨pg, 0, none⟩) k cp) = some j) wg w8 from ((Fr.refl _ wg).alloc _).grown g8 (fun j hj _ => hj))
          obtain ⟨A8, c8, hv8, -, -⟩ := own_slice o8
          subst hv8
          have hpp := HPg.out.putPl HQq.out (by rw [HPl.out]; exact o8) HFr8.out
          have HPs := Lib.hid hpp.1
          have HFs := Lib.hid (frAbove HFwg.out hpp.2)
          have HI8 := Lib.hid (show Whole w8 idb 48 V from HIg.out.fr HFr8.out (fun e => own_apart HPg.out.pl HIg.out (by decide) e))
          have hg8 : Whole w8 g 70 _ := HPg.out.whole.fr HFr8.out (fun e => own_apart HPg.out.pl HPg.out.whole (by decide) e)
          have HIs := Lib.hid (show Whole (w8.setCell ⟨g, 3, none⟩ (.slice A8 (k + 1) c8)) idb 48 V from HI8.out.fr (Fr.setCell (S := fun j => j = g) (p := ⟨g, 3, none⟩) (Fr.refl _ w8) (fun _ => rfl) _) (fun e => HI8.out.apart hg8 (by decide) e))
          have y3 : w8.cell? ⟨g, 3, none⟩ = some (.slice (some ⟨pg, 0, none⟩) k cp) := by rw [hg8.cell]; rfl
          have z3 := hg8.frozen 3
          clear o8 g8 at8 hpp hg8
          refine hK _ _ ⟨HI8.out, ?_⟩
          clear hK K
          have HSq := HI8
          (
            refine wpAnyH_takeP (i := 11) (v := .pointer (some ⟨g, 0, none⟩)) 102 rfl rfl (by kernel_rfl) (by kernel_rfl) (by kernel_rfl) (fun _ _ _ h => h) (.inl ⟨by rfl, ?_⟩) HSq.out ?_
            · intro xw xf
              go_simp)
          (
            refine wpAnyH_takeP (i := 12) (v := .pointer (some ⟨g, 3, none⟩)) 103 rfl rfl (by kernel_rfl) (by kernel_rfl) (by kernel_rfl) (fun _ _ _ h => h) (.inl ⟨by rfl, ?_⟩) HSq.out ?_
            · intro xw xf
              go_simp)
          (
            try simp only [List.setIfInBounds_toArray, List.set_cons_succ, List.set_cons_zero]
            refine wpAnyH_all (rs := [13]) (by kernel_rfl) (by simp) ?_
            intro i hi
            simp only [List.mem_cons, List.not_mem_nil, or_false] at hi
            subst hi)
          refine wpOp_step rfl (fun K hK => ?_)
          go_simp
          refine hK _ _ ⟨HIs.out, ?_⟩
          clear hK K
          refine wpAnyH_done (by kernel_rfl) ?_ _
          obtain ⟨ws, hws⟩ : ∃ ws, w8.setCell ⟨g, 3, none⟩ (.slice A8 (k + 1) c8) = ws := ⟨_, rfl⟩
          rw [hws] at HPs HFs ⊢
          clear hws y3 z3 HSq HIs
          obtain ⟨d0, d1, d2, d3, d4⟩ := HPs.out.cells
          have HDp := Lib.hid (show ws.ownsRow w0.heap.size 3 1 (.slice (some ⟨dg, 0, none⟩) k cd) k (intsV ds) from by have := HPs.out.dp; rwa [HDs.out] at this)
          go_wp2_with (at_builtin; refine wpList_append_row _ rfl (.tmp 108) (.tmp 110) 68 68 rfl w0.heap.size 3 i1 (.int .i64 0) 1 8 Tryz.underlying68 gi gz0 gz1 gz2 rfl _ k (intsV ds) rfl (HDp.out.alloc _) _ 1 [.int .i64 (db + 1)] rfl (src_int _ _) (by unfold maxLen; omega) (by omega) (by have := HFs.out.size; simp; omega) ?_
                       intro v9 w9 o9 g9 at9
                       have HFr9 := Lib.hid (show Fr (fun j => Value.ownBlock (.slice (some ⟨dg, 0, none⟩) k cd) = some j) ws w9 from ((Fr.refl _ ws).alloc _).grown g9 (fun j hj _ => hj))
                       obtain ⟨A9, c9, hv9, -, -⟩ := own_slice o9
                       subst hv9
                       have hpp := HPs.out.putDp (by rw [HDs.out]; exact o9) HFr9.out
                       have HPz := Lib.hid hpp.1
                       have HFz := Lib.hid (frAbove HFs.out hpp.2)
                       have hg9 : Whole w9 g 70 _ := HPs.out.whole.fr HFr9.out (fun e => own_apart HPs.out.dp HPs.out.whole (by decide) e)
                       have y4 : w9.cell? ⟨g, 4, none⟩ = some (.slice (some ⟨dg, 0, none⟩) k cd) := by rw [hg9.cell]; rfl
                       have z4 := hg9.frozen 4
                       clear o9 g9 at9 hpp hg9)
          go_end0
          refine ⟨rfl, v7, .slice A8 (k + 1) c8, .slice A9 (k + 1) c9, ?_, HFz.out⟩
          have hlay : layE xs kk ld (some D) = Y ++ hiB sm 4 4 ++ ld := by
            unfold layE
            simp only
            rw [HLD.out, show crcI ld = sm from HSm.out, HY.out]
          rw [hlay]
          exact HPz.out))
end Go.Proofs.YtkaeoflgnnlbeaaGreatDoor
/- What is proved: what a packer lays ahead of the entries, and behind them; over what a sum tells. Conditions: the packer is the caller's. -/
namespace Go.Proofs.YtkaeoflgnnlbeaaGreatDoor
open Go.RowKit
set_option linter.unusedVariables false

theorem lies_row (w : World) (l : List UInt8) : Lies (w.alloc (.cells (bytesV l).toArray 5)) (some ⟨w.heap.size, 0, none⟩) (bytesV l) :=
  .inr ⟨w.heap.size, 0, rfl, fun j u hu => by rw [Nat.zero_add, (Whole.new w 5 _).cell]; simpa using hu⟩
theorem lies_whole {w : World} {g : Nat} {t : TypeId} {l : List UInt8} (h : Whole w g t (idV l)) : Lies w (some ⟨g, 0, none⟩) (bytesV l) :=
  .inr ⟨g, 0, rfl, fun j u hu => by rw [Nat.zero_add, h.cell]; simpa [idV] using hu⟩

set_option maxHeartbeats 12800000 in
set_option maxRecDepth 100000 in
theorem Phead_any (w0 : World) (g : Nat) (v vp vd : Value) (IA : Option Addr) (n c : Nat) (chain : Int) (pls : List PPl) (ds : List Int) (hn : n ≤ 600) (w : World) (hF : Fr (fun _ => False) w0 w) (hP : Pk w0.heap.size w g v vp vd [] IA n c chain pls ds) :
    Calls Tryz.prog 23 #[.pointer (some ⟨g, 0, none⟩)] w (EtPost w0 w g (headP n) IA n c chain pls ds) := by
  have HF0 := Lib.hid hF
  have HP0 := Lib.hid hP
  have hcv : (convert 25 25 (.slice (some ⟨w.heap.size, 0, none⟩) 4 4)).run Tryz.prog (w.alloc (.cells #[.int .u8 80, .int .u8 65, .int .u8 67, .int .u8 75] 5)) = .ok (.slice (some ⟨w.heap.size, 0, none⟩) 4 4) (w.alloc (.cells #[.int .u8 80, .int .u8 65, .int .u8 67, .int .u8 75] 5 (4, 5))) :=
    Lib.run_convert_bytes_const (P := Tryz.prog) w 25 5 #[.int .u8 80, .int .u8 65, .int .u8 67, .int .u8 75] 4 4 Tryz.underlying25 Tryz.underlying5
  have hll : Lies (w.alloc (.cells #[.int .u8 80, .int .u8 65, .int .u8 67, .int .u8 75] 5 (4, 5))) (some ⟨w.heap.size, 0, none⟩) (bytesV [80, 65, 67, 75]) :=
    .inr ⟨w.heap.size, 0, rfl, fun j u hu => by
      rw [Nat.zero_add]
      have e : (w.alloc (.cells #[.int .u8 80, .int .u8 65, .int .u8 67, .int .u8 75] 5 (4, 5))).cell? ⟨w.heap.size, j, none⟩ = (#[.int .u8 80, .int .u8 65, .int .u8 67, .int .u8 75] : Array Value)[j]? := cell_of_row _ _ _ _ _ _ (heap_alloc_new w _)
      rw [e, ← Array.getElem?_toList]; exact hu⟩
  obtain ⟨w1, hw1⟩ : ∃ w1, w.alloc (.cells #[.int .u8 80, .int .u8 65, .int .u8 67, .int .u8 75] 5 (4, 5)) = w1 := ⟨_, rfl⟩
  have HF01 := Lib.hid (show Fr (fun _ => False) w w1 by subst hw1; exact (Fr.refl _ _).alloc _)
  have HP1 := Lib.hid (HP0.out.frF HF01.out)
  have HF1 := Lib.hid (HF0.out.trans HF01.out (fun _ _ e => e))
  rw [hw1] at hll
  have HR := Lib.hid (WRaw_n g v [] [80, 65, 67, 75] (some ⟨w.heap.size, 0, none⟩) 4 4 w1 rfl HP1.out.wr hll (by simp))
  unfold WPost WTo at HR
  rw [List.nil_append] at HR
  have hnw : IntKind.u32.wrap (n : Int) = n := by rw [IntKind.wrap_u32]; omega
  rw [hw1] at hcv
  clear hF hP hll hw1
  go_enter Tryz.func23, Tryz.ntmps23
  go_upto_region 1 with (go_at_call 44; refine HR.out.mono ?_; rintro e w2 ⟨rfl, v2, r2, s2⟩; have hpw := HP1.out.wrote HF1.out.size r2 s2; have HP2 := Lib.hid hpw.1; have HF2 := Lib.hid (frAbove HF1.out hpw.2); clear hpw r2 s2)
  clear hcv
  have HU := Lib.hid (WU32_any g v2 [80, 65, 67, 75] 1 w2 HP2.out.wr (by omega) (by omega) (by simp))
  unfold WPost WTo at HU
  go_upto_region 2 with (go_at_call 45; refine HU.out.mono ?_; rintro e w3 ⟨rfl, v3, r3, s3⟩; have hpw := HP2.out.wrote HF2.out.size r3 s3; have HP3 := Lib.hid hpw.1; have HF3 := Lib.hid (frAbove HF2.out hpw.2); clear hpw r3 s3)
  refine wp_region_held (S := fun w' => w'.cell? ⟨g, 1, none⟩ = some (.slice IA n c)) (by kernel_rfl) ?_
  have HSq := Lib.hid (show (World.drew w3).cell? ⟨g, 1, none⟩ = some (.slice IA n c) from HP3.out.cells.2.1)
  (
    refine wpAnyH_takeP (i := 0) (v := .pointer (some ⟨g, 0, none⟩)) 12 rfl rfl (by kernel_rfl) (by kernel_rfl) (by kernel_rfl) (fun _ _ _ h => h) (.inl ⟨by rfl, ?_⟩) HSq.out ?_
    · intro xw xf
      go_simp)
  (
    refine wpAnyH_takeP (i := 1) (v := .pointer (some ⟨g, 0, none⟩)) 13 rfl rfl (by kernel_rfl) (by kernel_rfl) (by kernel_rfl) (fun _ _ _ h => h) (.inl ⟨by rfl, ?_⟩) HSq.out ?_
    · intro xw xf
      go_simp)
  (
    refine wpAnyH_takeP (i := 2) (v := .pointer (some ⟨g, 0, none⟩)) 14 rfl rfl (by kernel_rfl) (by kernel_rfl) (by kernel_rfl) (fun _ _ _ h => h) (.inl ⟨by rfl, ?_⟩) HSq.out ?_
    · intro xw xf
      go_simp)
  (
    refine wpAnyH_takeP (i := 3) (v := .pointer (some ⟨g, 0, none⟩)) 15 rfl rfl (by kernel_rfl) (by kernel_rfl) (by kernel_rfl) (fun _ _ _ h => h) (.inl ⟨by rfl, ?_⟩) HSq.out ?_
    · intro xw xf
      go_simp)
  (
    refine wpAnyH_takeP (i := 4) (v := .pointer (some ⟨g, 0, none⟩)) 16 rfl rfl (by kernel_rfl) (by kernel_rfl) (by kernel_rfl) (fun _ _ _ h => h) (.inl ⟨by rfl, ?_⟩) HSq.out ?_
    · intro xw xf
      go_simp)
  (
    refine wpAnyH_takeP (i := 5) (v := .pointer (some ⟨g, 1, none⟩)) 17 rfl rfl (by kernel_rfl) (by kernel_rfl) (by kernel_rfl) (fun _ _ _ h => h) (.inl ⟨by rfl, ?_⟩) HSq.out ?_
    · intro xw xf
      go_simp)
  (
    refine wpAnyH_takeP (i := 6) (v := .slice IA n c) 18 rfl rfl (by kernel_rfl) (by kernel_rfl) (by kernel_rfl) (fun _ _ _ h => h) (.inl ⟨by rfl, ?_⟩) HSq.out ?_
    · intro xw xf
      go_simp)
  (
    refine wpAnyH_takeP (i := 7) (v := .int .i64 n) 19 rfl rfl (by kernel_rfl) (by kernel_rfl) (by kernel_rfl) (fun _ _ _ h => h) (.inl ⟨by rfl, ?_⟩) HSq.out ?_
    · intro xw xf
      go_simp)
  (
    refine wpAnyH_takeP (i := 8) (v := .int .u32 n) 20 rfl rfl (by kernel_rfl) (by kernel_rfl) (by kernel_rfl) (fun _ _ _ h => h) (.inl ⟨by rfl, ?_⟩) HSq.out ?_
    · intro xw xf
      go_simp)
  (
    change wpAnyH _ _ _ _ _ _ _ _ (World.drew w3)
    have HFd := Lib.hid (show Fr (fun _ => False) w3 (World.drew w3) from (Fr.refl _ w3).drew)
    obtain ⟨wd, hwd⟩ : ∃ wd, World.drew w3 = wd := ⟨_, rfl⟩
    rw [hwd]
    rw [hwd] at HFd
    clear hwd HSq)
  have HPd := Lib.hid (HP3.out.frF HFd.out)
  have HFwd := Lib.hid (HF3.out.trans HFd.out (fun _ _ e => e))
  have HU2 := Lib.hid (WU32_any g v3 ([80, 65, 67, 75] ++ hiB 1 4 4) n wd HPd.out.wr (by omega) (by omega) (by simp [hiB_length]))
  unfold WPost WTo at HU2
  (
    try simp only [List.setIfInBounds_toArray, List.set_cons_succ, List.set_cons_zero]
    refine wpAnyH_all (rs := [9]) (by kernel_rfl) (by simp) ?_
    intro i hi
    simp only [List.mem_cons, List.not_mem_nil, or_false] at hi
    subst hi)
  refine wpOp_step rfl (fun K hK => ?_)
  go_simp
  go_wp2_with (go_at_call 45; refine HU2.out.mono ?_; rintro e w4 ⟨rfl, v4, r4, s4⟩; have hpw := HPd.out.wrote HFwd.out.size r4 s4; have HP4 := Lib.hid hpw.1; have HF4 := Lib.hid (frAbove HFwd.out hpw.2); clear hpw r4 s4)
  refine ⟨HP4.out.cells.2.1, ?_⟩
  refine wpAnyH_done (by kernel_rfl) ?_ _
  go_wp2_with fail
  go_end0
  exact ⟨rfl, v4, vp, vd, HP4.out, HF4.out⟩

/-- What a sum tells, in each world that comes of one. -/
def SoSays (su : List UInt8 → List UInt8) (w0 : World) : Prop :=
  ∀ (A : Option Addr) (l : List UInt8) (w : World), Fr (fun _ => False) w0 w → Parts w A [l] → l.length ≤ 10000000 → Calls Tryz.prog 50 #[.slice A 1 1] w fun e w' => e = .returned (.agg (idV (su l))) ∧ Fr (fun _ => False) w w'
set_option maxHeartbeats 12800000 in
set_option maxRecDepth 100000 in
theorem Ptrailer_any (su : List UInt8 → List UInt8) (hsl : ∀ l, (su l).length = 32) (w0 : World) (hsu : SoSays su w0) (g : Nat) (v vp vd : Value) (xs : List UInt8) (IA : Option Addr) (n c : Nat) (chain : Int) (pls : List PPl) (ds : List Int) (hx : xs.length ≤ 2000000) (w : World) (hF : Fr (fun _ => False) w0 w) (hP : Pk w0.heap.size w g v vp vd xs IA n c chain pls ds) :
    Calls Tryz.prog 26 #[.pointer (some ⟨g, 0, none⟩)] w (EtPost w0 w g (xs ++ su xs) IA n c chain pls ds) := by
  have HF0 := Lib.hid hF
  have HP0 := Lib.hid hP
  have HB := Lib.hid (WBytes_any g v xs w hP.wr (by omega))
  unfold OwnPost at HB
  obtain ⟨XL, hXL⟩ : ∃ XL, xs.length = XL := ⟨_, rfl⟩
  have HXL := Lib.hid hXL
  rw [hXL] at HB
  have HSu := Lib.hid (fun w' (f : Fr (fun _ => False) w0 w') A (hp : Parts w' A [xs]) => hsu A xs w' f hp (by omega))
  have hVs := idV_size (su xs) (hsl xs)
  have hVo : (idV (su xs)).all (·.oneCell') = true := Array.all_eq_true_iff_forall_mem.2 (fun u hu => idV_one (su xs) u (by simpa using hu))
  have HSl := Lib.hid (hsl xs)
  obtain ⟨V, hV⟩ : ∃ V, idV (su xs) = V := ⟨_, rfl⟩
  have HV := Lib.hid hV
  rw [hV] at hVs hVo HSu
  have hsa : ∀ (b : Nat) (w : World), (Instr.sliceAt 48 (.pointer (some ⟨b, 0, none⟩)) none none none).run Tryz.prog w = .ok (.slice (some ⟨b, 0, none⟩) 32 32) w := fun b w => by kernel_rfl
  clear hF hP hXL hsu hsl hV
  go_enter Tryz.func26, Tryz.ntmps26
  go_upto_region 1 with (first
    | (go_at_call 27; refine HB.out.mono ?_; rintro e w1 ⟨v1, rfl, o1, b1⟩; have HO1 := Lib.hid o1; have HF1 := Lib.hid (Fr.of_below (S := fun _ => False) b1); obtain ⟨A1, c1, hv1, hk1, -⟩ := own_slice o1; subst hv1; have HK1 := Lib.hid hk1; clear o1 b1 hk1)
    | (go_at_call 50; refine (HSu.out _ ((HF0.out.trans HF1.out (fun _ _ e => e)).alloc _) _ (parts1 w1 xs A1 c1 XL HXL.out HK1.out (Lies.of_own HO1.out))).mono ?_; rintro e w2 ⟨rfl, f2⟩; have HF2 := Lib.hid ((HF1.out.alloc (.cells #[.slice A1 XL c1] 25)).trans f2 (fun _ _ e => e)); clear f2)
    | (refine wpList_store_at rfl 48 _ _ rfl w2.heap.size 0 48 _ V rfl rfl (Whole.new _ _ _) (by rw [hVs]; decide) (by rw [hVs]; exact sizeID) hVo ?_
       intro w4 hw4 hf4
       rw [laidAt_all _ _ (by rw [hVs]; rfl)] at hw4
       have HF4 := Lib.hid (show Fr (fun _ => False) w w4 from (HF2.out.alloc _).trans hf4 (fun j hj e => by have := HF2.out.size; omega))
       have HW4 := Lib.hid hw4
       clear hw4 hf4))
  obtain ⟨sb, hsb⟩ : ∃ sb, w2.heap.size = sb := ⟨_, rfl⟩
  rw [hsb] at HW4 ⊢
  clear hsb
  have HP4 := Lib.hid (HP0.out.frF HF4.out)
  have HFw4 := Lib.hid (HF0.out.trans HF4.out (fun _ _ e => e))
  refine wp_region_held (S := fun _ => True) (by kernel_rfl) ?_
  have HSq := Lib.hid True.intro
  (
    refine wpAnyH_takeP (i := 0) (v := .pointer (some ⟨g, 0, none⟩)) 9 rfl rfl (by kernel_rfl) (by kernel_rfl) (by kernel_rfl) (fun _ _ _ h => h) (.inl ⟨by rfl, ?_⟩) HSq.out ?_
    · intro xw xf
      go_simp)
  (
    refine wpAnyH_takeP (i := 1) (v := .pointer (some ⟨g, 0, none⟩)) 10 rfl rfl (by kernel_rfl) (by kernel_rfl) (by kernel_rfl) (fun _ _ _ h => h) (.inl ⟨by rfl, ?_⟩) HSq.out ?_
    · intro xw xf
      go_simp)
  (
    refine wpAnyH_takeP (i := 2) (v := .pointer (some ⟨g, 0, none⟩)) 11 rfl rfl (by kernel_rfl) (by kernel_rfl) (by kernel_rfl) (fun _ _ _ h => h) (.inl ⟨by rfl, ?_⟩) HSq.out ?_
    · intro xw xf
      go_simp)
  (
    refine wpAnyH_takeP (i := 3) (v := .slice (some ⟨sb, 0, none⟩) 32 32) 12 rfl rfl (by kernel_rfl) (by kernel_rfl) (by kernel_rfl) (fun _ _ _ h => h) (.inl ⟨by rfl, ?_⟩) HSq.out ?_
    · intro xw xf
      go_simp)
  (
    change wpAnyH _ _ _ _ _ _ _ _ (World.drew w4)
    have HFd := Lib.hid (show Fr (fun _ => False) w4 (World.drew w4) from (Fr.refl _ w4).drew)
    obtain ⟨wd, hwd⟩ : ∃ wd, World.drew w4 = wd := ⟨_, rfl⟩
    rw [hwd]
    rw [hwd] at HFd
    clear hwd HSq)
  have HPd := Lib.hid (HP4.out.frF HFd.out)
  have HFwd := Lib.hid (HFw4.out.trans HFd.out (fun _ _ e => e))
  have HWd := Lib.hid (HW4.out.fr HFd.out (fun e => e))
  have HLd := Lib.hid (show Lies wd (some ⟨sb, 0, none⟩) (bytesV (su xs)) from lies_whole (by rw [HV.out]; exact HWd.out))
  have HR := Lib.hid (WRaw_n g v xs (su xs) (some ⟨sb, 0, none⟩) 32 32 wd HSl.out HPd.out.wr HLd.out (by have := HSl.out; omega))
  unfold WPost WTo at HR
  (
    try simp only [List.setIfInBounds_toArray, List.set_cons_succ, List.set_cons_zero]
    refine wpAnyH_all (rs := [4]) (by kernel_rfl) (by simp) ?_
    intro i hi
    simp only [List.mem_cons, List.not_mem_nil, or_false] at hi
    subst hi)
  refine wpOp_step rfl (fun K hK => ?_)
  go_simp
  go_wp2_with (go_at_call 44; refine HR.out.mono ?_; rintro e w5 ⟨rfl, v5, r5, s5⟩; have hpw := HPd.out.wrote HFwd.out.size r5 s5; have HP5 := Lib.hid hpw.1; have HF5 := Lib.hid (frAbove HFwd.out hpw.2); clear hpw r5 s5)
  refine ⟨True.intro, ?_⟩
  refine wpAnyH_done (by kernel_rfl) ?_ _
  go_wp2_with fail
  go_end0
  exact ⟨rfl, v5, vp, vd, HP5.out, HF5.out⟩
end Go.Proofs.YtkaeoflgnnlbeaaGreatDoor

/- What is proved: the one op that lays what an op lays from one place on up to another one, by the program. Conditions: the cutter is as made; the op is there, and the places lie in what it lays. -/
import Derived.Test.YthjfkeploofblaaDtb
import Derived.Test.YthjfkeploofblaaDas
import Derived.Test.YthjfkeploofblaaDej
namespace Go.Proofs.Ythjfkeploofblaa
open Go.RowKit
set_option linter.unusedVariables false

/-- What a call tells that lays one op, or some, of a cutter's. -/
def PcPost (w0 w : World) (gc g M : Nat) (E : Option Addr) (ce : Nat) (A : Option Addr) (c : Nat) (ps : List POp) (R : List UInt8) (o : DOp) (n : Int) (e : Ending) (w' : World) : Prop :=
  ∃ B d R', e = .returned (.agg #[.bool o.copy, .int .i64 o.frm, .int .i64 o.n, .slice B o.b.length d]) ∧ InR g (R ++ R') ⟨o, B, d⟩ ∧ (R'.length : Int) ≤ n ∧ Ctr w0 w' gc g M E ce A c ps (R ++ R') ∧ Fr (fun j => j = g ∨ j = gc) w w'

set_option maxHeartbeats 6400000 in
set_option maxRecDepth 100000 in
theorem Dpiece_any {w0 w : World} {gc g M ce c : Nat} {E A : Option Addr} {ps : List POp} {R : List UInt8} (h : Ctr w0 w gc g M E ce A c ps R) (hsc : Scr w0 A c ps) (hM : M ≤ 4000) (base : Int) (hb : base ≤ 4000)
    (k : Nat) (o : DOp) (B : Option Addr) (pc : Nat) (hp : ps[k]? = some ⟨o, B, pc⟩) (ho : o.Right base) (S l m : Nat) (hS : sumO ((opsO ps).take k) = S) (hS1 : S + o.size ≤ 4000) (h2 : l < m) (h3 : m ≤ o.size) (hroom : R.length + (m - l) ≤ M) :
    Calls Try.prog 63 #[.pointer (some ⟨gc, 0, none⟩), .int .i64 k, .int .i64 ((S : Int) + l), .int .i64 ((S : Int) + m)] w (PcPost w0 w gc g M E ce A c ps R (subO o l m) ((m : Int) - l)) := by
  have hkn := (List.getElem?_eq_some_iff.1 hp).1
  obtain ⟨ab, ao, rfl⟩ := hsc.addr hkn
  obtain ⟨eb, hEb⟩ : ∃ eb, E = some ⟨eb, 0, none⟩ := own_g0 h.ends (by omega)
  subst hEb
  have hen : (opsO ps)[k]? = some o := by simp [opsO, hp]
  have hcE := World.ownsRow.cellAt h.ends k (by omega)
  rw [endsV_get _ _ (List.getElem?_eq_some_iff.1 hen).1, sum_take_succ hen, hS] at hcE
  have hscw := hsc.below h.bel
  obtain ⟨d0, d1, d2, d3⟩ := hscw.cells hp
  have hok := hscw.at_ok hp
  simp only at d0 d1 d2 d3
  have hnums := Right_nums ho hb (by omega)
  have hpos := ho.pos
  obtain ⟨Z, hZ⟩ : ∃ Z, o.size = Z := ⟨_, rfl⟩
  have HLd := Lib.hid (fun w => by have := Dlaid_any o B pc w; rw [hZ] at this; exact this)
  unfold Ans at HLd
  have HZ := Lib.hid hZ
  rw [hZ] at hS1 h3 hpos hcE
  obtain ⟨n, hn⟩ : ∃ n, ps.length = n := ⟨_, rfl⟩
  have HN := Lib.hid hn
  have HRo := Lib.hid ho
  have HH := Lib.hid h
  have hcell := h.cell
  rw [hn] at hcell hkn
  obtain ⟨c0, c1, c2⟩ := hcell.three
  obtain ⟨w1, hw1⟩ : ∃ w1, w.alloc (.cells #[.bool false, .int .i64 0, .int .i64 0, .slice none 0 0] 57) = w1 := ⟨_, rfl⟩
  have HF1 := Lib.hid (show Fr (fun _ => False) w w1 by subst hw1; exact (Fr.refl _ _).alloc _)
  have HW1 := Lib.hid (show Whole w1 w.heap.size 57 #[.bool false, .int .i64 0, .int .i64 0, .slice none 0 0] by subst hw1; exact Whole.new _ _ _)
  have hs1 : w1.heap.size = w.heap.size + 1 := by subst hw1; simp
  have HS1 := Lib.hid hs1
  have HOk := Lib.hid hok
  have b0 := HF1.out.cell d0 (fun e => e)
  have b1 := HF1.out.cell d1 (fun e => e)
  have b2 := HF1.out.cell d2 (fun e => e)
  have b3 := HF1.out.cell d3 (fun e => e)
  have a0 := HF1.out.cell c0 (fun e => e)
  have a1 := HF1.out.cell c1 (fun e => e)
  have HC1 := Lib.hid (HF1.out.cell c1 (fun e => e))
  have HE1 := Lib.hid (HF1.out.cell hcE (fun e => e))
  clear h hsc hS hscw hok hen hcell hn hZ d0 d1 d2 d3 c0 c1 c2 hcE hs1 ho
  have hk0 : (0 : Int) ≤ k := by omega
  have hkn' : (k : Int) < n := by omega
  go_enter Try.func63, Try.ntmps63
  go_upto_region 1 with fail
  clear hw1
  go_upto_region 2 with fail
  obtain ⟨w2, hw2⟩ : ∃ w2, w1.alloc (.cells #[.bool o.copy, .int .i64 o.frm, .int .i64 o.n, .slice B o.b.length pc] 57) = w2 := ⟨_, rfl⟩
  rw [hw2]
  have HF12 := Lib.hid (show Fr (fun _ => False) w1 w2 by subst hw2; exact (Fr.refl _ _).alloc _)
  have HO2 := Lib.hid (show OpAt w2 w1.heap.size 57 o B pc by subst hw2; exact OpAt.new _ _ _ _ _)
  obtain ⟨go, hgo⟩ : ∃ go, w1.heap.size = go := ⟨_, rfl⟩
  have HGo := Lib.hid hgo
  rw [hgo] at HO2 ⊢
  obtain ⟨gr, hgr⟩ : ∃ gr, w.heap.size = gr := ⟨_, rfl⟩
  have HGr := Lib.hid hgr
  rw [hgr] at HW1 HS1 ⊢
  have q1 : ∀ q : Later w2, q.w'.cell? ⟨gc, 1, none⟩ = some (.slice (some ⟨eb, 0, none⟩) n ce) := fun q => (HF12.out.trans q.fr (fun _ _ e => e)).cell HC1.out (fun e => e)
  have q2 : ∀ q : Later w2, q.w'.cell? ⟨eb, k, none⟩ = some (.int .i64 ((S : Int) + Z)) := fun q => (HF12.out.trans q.fr (fun _ _ e => e)).cell HE1.out (fun e => e)
  have q3 : ∀ q : Later w2, q.w'.cell? ⟨go, 0, none⟩ = some (.bool o.copy) := fun q => (HO2.out.fr q.fr).cells.1
  have q4 : ∀ q : Later w2, q.w'.cell? ⟨go, 1, none⟩ = some (.int .i64 o.frm) := fun q => (HO2.out.fr q.fr).cells.2.1
  have q5 : ∀ q : Later w2, q.w'.cell? ⟨go, 2, none⟩ = some (.int .i64 o.n) := fun q => (HO2.out.fr q.fr).cells.2.2.1
  have q6 : ∀ q : Later w2, q.w'.cell? ⟨go, 3, none⟩ = some (.slice B o.b.length pc) := fun q => (HO2.out.fr q.fr).cells.2.2.2
  have hwS : IntKind.i64.wrap (S : Int) = (S : Int) := by rw [IntKind.wrap_i64]; omega
  clear hw2 hgo hgr b0 b1 b2 b3 a0 a1
  refine wp_region_later (w0 := w2) (Fr.refl _ _) (by kernel_rfl) (by kernel_rfl) ?_
  repeat (quiet_step ((go_at_call 35; refine Calls.later_of (HLd.out _))))
  refine wpQuiet_nil ?_
  intro _ hw'
  obtain ⟨q, hw''⟩ := hw'
  have r3 := q3 q
  have r4 := q4 q
  have r5 := q5 q
  have r6 := q6 q
  have HFq := Lib.hid (HF12.out.trans q.fr (fun _ _ e => e))
  subst hw''
  obtain ⟨wq, hwq⟩ : ∃ wq, q.w' = wq := ⟨_, rfl⟩
  rw [hwq] at r3 r4 r5 r6 HFq ⊢
  clear q1 q2 q3 q4 q5 q6 hwq q hwS
  have HWq := Lib.hid (HW1.out.fr HFq.out (fun e => e))
  have HF0q := Lib.hid (HF1.out.trans HFq.out (fun _ _ e => e))
  have HCq := Lib.hid (HH.out.fr HF0q.out (fun _ e => e.elim) (fun e => e) (fun e => e) (fun _ _ e => e))
  have HLt := Lib.hid HH.out.lt
  obtain ⟨x0, x1, x2, x3⟩ := HWq.out.four
  have z0 := HWq.out.frozen 0
  have z1 := HWq.out.frozen 1
  have z2 := HWq.out.frozen 2
  have z3 := HWq.out.frozen 3
  obtain ⟨cp, fo, no, bs⟩ := o
  simp only at r3 r4 r5 r6 hnums
  obtain ⟨n1, n2, n3, n4, n5⟩ := hnums
  cases cp
  · have hsub : subO ⟨false, fo, no, bs⟩ l m = newO ((bs.drop l).take (m - l)) := by
      unfold subO
      rw [if_neg (by simp)]
      simp only [Int.toNat_natCast]
      congr 2
      omega
    obtain ⟨L, hL⟩ : ∃ L, bs.length = L := ⟨_, rfl⟩
    have hZL : Z = L := by rw [← HZ.out, ← hL]; simp [DOp.size]
    subst hZL
    have hml : m ≤ L := by omega
    have HBy := Lib.hid ((HOk.out.lies.fr HF0q.out (fun _ _ e => e)).cutB pc l (m - l) HOk.out.le)
    have hcl := HOk.out.le
    have hcm := HOk.out.cap
    simp only at hcl hcm HBy
    have hsl : ∀ w, (Instr.slice 26 (.slice B L pc) (some (.int .i64 l)) (some (.int .i64 m)) none).run Try.prog w = .ok (.slice (tlB B pc l) (m - l) (pc - l)) w := fun w => slice_lhB B L pc l m (by omega) (by omega) w
    have hlen : ((bs.drop l).take (m - l)).length = m - l := by rw [List.length_take, List.length_drop]; omega
    obtain ⟨p, hp'⟩ : ∃ p, (bs.drop l).take (m - l) = p := ⟨_, rfl⟩
    rw [hp'] at hlen hsub HBy
    obtain ⟨TA, hTA⟩ : ∃ TA, tlB B pc l = TA := ⟨_, rfl⟩
    obtain ⟨C2, hC2⟩ : ∃ C2, pc - l = C2 := ⟨_, rfl⟩
    obtain ⟨D, hD⟩ : ∃ D, m - l = D := ⟨_, rfl⟩
    rw [hTA, hC2, hD] at hsl
    rw [hTA] at HBy
    rw [hD] at hlen hroom
    have HP := Lib.hid hlen
    have HSub := Lib.hid hsub
    have hD1 : 1 ≤ D := by omega
    have HDe := Lib.hid (show (m : Int) - l = D by omega)
    have HFr := Lib.hid (Dfresh_any HCq.out hM TA C2 p (by rw [hlen]; exact hD1) (by rw [hlen]; exact hroom) HBy.out)
    obtain ⟨K, hK⟩ : ∃ K, R.length = K := ⟨_, rfl⟩
    rw [hlen, hK] at HFr
    have HK := Lib.hid hK
    rw [hL] at r6
    have hw1 : IntKind.i64.wrap ((S : Int) + l - S) = l := by rw [IntKind.wrap_i64]; omega
    have hw2 : IntKind.i64.wrap ((S : Int) + m - S) = m := by rw [IntKind.wrap_i64]; omega
    clear hlen hsub hTA hC2 hD hp' hL hK
    go_wp2_with (go_at_call 51; refine HFr.out.mono ?_; rintro e w5 ⟨rfl, c5, f5⟩; have HC5 := Lib.hid c5; have HF5 := Lib.hid f5; have HW5 := Lib.hid (HWq.out.fr f5 (fun e => by have := HLt.out; have := HGr.out; omega)); obtain ⟨y0, y1, y2, y3⟩ := HW5.out.four; have v0 := HW5.out.frozen 0; have v1 := HW5.out.frozen 1; have v2 := HW5.out.frozen 2; have v3 := HW5.out.frozen 3; clear c5 f5)
    have hW9 := setOp_whole (a := .bool false) (b := .int .i64 0) (c := .int .i64 0) (d := .slice (some ⟨g, K, none⟩) D D) HW5.out
    have hF9 := setOp_fr w5 gr (.bool false) (.int .i64 0) (.int .i64 0) (.slice (some ⟨g, K, none⟩) D D)
    refine bodyPost_ret (v := .agg #[.bool false, .int .i64 0, .int .i64 0, .slice (some ⟨g, K, none⟩) D D]) (results_one_cell (p := 8) rfl _ _ _ _ _ _ rfl hW9 Try.underlying57 rfl (by kernel_rfl)) rfl ?_
    have hgr : gr = w.heap.size := HGr.out.symm
    have hlt := HLt.out
    have hb0 := HH.out.bel.size
    refine ⟨some ⟨g, K, none⟩, D, p, by rw [HSub.out]; simp only [newO, HP.out], ?_, by rw [HP.out, HDe.out]; omega, ?_, ?_⟩
    · rw [HSub.out]
      refine ⟨⟨⟨by simp [newO], by simp [newO]⟩, ⟨by simp [newO], by simp [newO]⟩⟩, .inr ⟨K, rfl, by simp only [newO, HP.out], by simp only [newO, HP.out]; omega, by simp only [newO, List.length_append, HP.out, HK.out]; omega, ?_⟩⟩
      simp only [newO]
      rw [← HK.out, List.drop_left, List.take_length]
    · exact HC5.out.fr hF9 (fun j e => by omega) (fun e => by omega) (fun e => by omega) (fun k hk e => by have := (World.ownsRow.lt HH.out.ends k hk).2; omega)
    · exact ((HF0q.out.mono (T := fun j => j = g ∨ j = gc) (fun _ _ e => e.elim)).trans HF5.out (fun _ _ e => e)).trans hF9 (fun i hi e => by omega)
  · have hsub : subO ⟨true, fo, no, bs⟩ l m = ⟨true, fo + l, (m : Int) - l, []⟩ := by
      unfold subO
      rw [if_pos rfl]
    have hZn : Z = no := by rw [← HZ.out]; simp [DOp.size]
    subst hZn
    have hw1 : IntKind.i64.wrap (fo + ((S : Int) + l)) = fo + ((S : Int) + l) := by rw [IntKind.wrap_i64]; omega
    have hw2 : IntKind.i64.wrap (fo + ((S : Int) + l) - S) = fo + l := by rw [IntKind.wrap_i64]; omega
    have hw3 : IntKind.i64.wrap ((S : Int) + m - ((S : Int) + l)) = (m : Int) - l := by rw [IntKind.wrap_i64]; omega
    have HSub := Lib.hid hsub
    clear hsub
    go_wp2_with fail
    have hW9 := setOp_whole (a := .bool true) (b := .int .i64 (fo + l)) (c := .int .i64 ((m : Int) - l)) (d := .slice none 0 0) HWq.out
    have hF9 := setOp_fr wq gr (.bool true) (.int .i64 (fo + l)) (.int .i64 ((m : Int) - l)) (.slice none 0 0)
    refine bodyPost_ret (v := .agg #[.bool true, .int .i64 (fo + l), .int .i64 ((m : Int) - l), .slice none 0 0]) (results_one_cell (p := 8) rfl _ _ _ _ _ _ rfl hW9 Try.underlying57 rfl (by kernel_rfl)) rfl ?_
    have hgr : gr = w.heap.size := HGr.out.symm
    have hlt := HLt.out
    refine ⟨none, 0, [], by rw [HSub.out]; rfl, ?_, by simp; omega, ?_, ?_⟩
    · rw [HSub.out]
      refine ⟨⟨⟨by simp only; omega, by simp only; omega⟩, ⟨by simp only; omega, by simp only; omega⟩⟩, .inl ⟨rfl, rfl, rfl⟩⟩
    · rw [List.append_nil]
      exact HCq.out.fr hF9 (fun j e => by have := HCq.out.bel.size; have := HH.out.bel.size; omega) (fun e => by omega) (fun e => by omega) (fun k hk e => by have := (World.ownsRow.lt HH.out.ends k hk).2; omega)
    · exact (HF0q.out.mono (T := fun j => j = g ∨ j = gc) (fun _ _ e => e.elim)).trans hF9 (fun i hi e => by omega)
end Go.Proofs.Ythjfkeploofblaa

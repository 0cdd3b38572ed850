/- What is proved: texts that stand one behind the other: Pgc Pwa. Conditions: each theorem names its own. -/
import Derived.Test.YtkaeoflgnnlbeaaGreatDoorDa
import Derived.Test.YtkaeoflgnnlbeaaGreatDoorDas
import Derived.Test.YtkaeoflgnnlbeaaGreatDoorDba
import Derived.Test.YtkaeoflgnnlbeaaGreatDoorDea
import Derived.Deep.Cut
import Derived.Deep.RegionWith
import Derived.Deep.QuietTactic
import Derived.BigQuiet
import Derived.OrdersHeld
import Derived.Test.YtkaeoflgnnlbeaaGreatDoorQPga
/- What is proved: objects as an argument; by which one of the four last ones of its kind an object is told, plainly and by the document; over what making a script and putting it tells. Conditions: the objects' cells are there; the two calls on scripts tell what is said of them. -/
namespace Go.Proofs.YtkaeoflgnnlbeaaGreatDoor
open Go.RowKit
set_option linter.unusedVariables false

/-- An object and where its body lies. -/
structure PIt where
  k : Int
  b : List UInt8
  B : Option Addr
  c : Nat
def PIt.cells (p : PIt) : List Value := [.int .i64 p.k, .slice p.B p.b.length p.c]
def flatT (ps : List PIt) : List Value := ps.flatMap PIt.cells
structure PIt.Ok (w : World) (p : PIt) : Prop where
  k : I64 p.k
  le : p.b.length ≤ p.c
  cap : p.c ≤ 9223372036854775807
  lies : Lies w p.B (bytesV p.b)
/-- Objects lie at A. -/
structure Its (w : World) (A : Option Addr) (c : Nat) (ps : List PIt) : Prop where
  lies : Lies w A (flatT ps)
  ok : ∀ p ∈ ps, p.Ok w
  le : ps.length ≤ c
  cap : c ≤ 9223372036854775807
theorem flatT_len (ps : List PIt) : (flatT ps).length = ps.length * 2 := by
  induction ps with
  | nil => rfl
  | cons p ps ih => rw [show flatT (p :: ps) = p.cells ++ flatT ps from rfl, List.length_append, ih, List.length_cons]; simp [PIt.cells]; omega
theorem flatT_get (ps : List PIt) (i j : Nat) (p : PIt) (h : ps[i]? = some p) (hj : j < 2) : (flatT ps)[i * 2 + j]? = p.cells[j]? := by
  induction ps generalizing i with
  | nil => simp at h
  | cons m ps ih =>
    rw [show flatT (m :: ps) = m.cells ++ flatT ps from rfl]
    have hl : m.cells.length = 2 := rfl
    cases i with
    | zero =>
      simp at h
      subst h
      rw [List.getElem?_append_left (by omega), Nat.zero_mul, Nat.zero_add]
    | succ i =>
      rw [List.getElem?_append_right (by omega), hl, show (i + 1) * 2 + j - 2 = i * 2 + j by omega]
      exact ih i (by simpa using h)
section
variable {w w' : World} {A : Option Addr} {c : Nat} {ps : List PIt} {p : PIt}
theorem Its.fr (h : Its w A c ps) (f : Fr (fun _ => False) w w') : Its w' A c ps := ⟨h.lies.fr f (fun _ _ e => e), fun p hp => ⟨(h.ok p hp).k, (h.ok p hp).le, (h.ok p hp).cap, (h.ok p hp).lies.fr f (fun _ _ e => e)⟩, h.le, h.cap⟩
theorem Its.addr (h : Its w A c ps) {k : Nat} (hk : k < ps.length) : ∃ b o, A = some ⟨b, o, none⟩ := by
  rcases h.lies with h0 | ⟨b, o, h0, _⟩
  · have := flatT_len ps
    rw [h0] at this
    simp at this
    omega
  · exact ⟨b, o, h0⟩
theorem Its.cells {b o k : Nat} (h : Its w (some ⟨b, o, none⟩) c ps) (hp : ps[k]? = some p) : w.cell? ⟨b, o + k * 2, none⟩ = some (.int .i64 p.k) ∧ w.cell? ⟨b, o + k * 2 + 1, none⟩ = some (.slice p.B p.b.length p.c) := by
  rcases h.lies with h0 | ⟨b', o', h0, hc⟩
  · have := flatT_len ps
    rw [h0] at this
    have := (List.getElem?_eq_some_iff.1 hp).1
    simp at *
    omega
  · injection h0 with h0
    injection h0 with h1 h2
    subst h1; subst h2
    have g := fun j (hj : j < 2) => flatT_get ps k j p hp hj
    refine ⟨?_, ?_⟩
    · exact hc (k * 2) _ (by rw [show k * 2 = k * 2 + 0 by omega, g 0 (by omega)]; rfl)
    · rw [Nat.add_assoc]; exact hc (k * 2 + 1) _ (by rw [g 1 (by omega)]; rfl)
end
/-- By which one, and the load: n are left to look at; st: the best so far, its load, how many were seen. -/
def tdL (dl : List UInt8 → List UInt8 → List UInt8 × Int) (ps : List PIt) (ds : List Int) (kk : Int) (tb : List UInt8) (chain : Int) : Nat → Int × List UInt8 × Nat → Int × List UInt8
  | 0, st => (st.1, st.2.1)
  | j + 1, st =>
    if ((ps[j]?).map PIt.k) ≠ some kk ∨ st.2.2 = 4 then tdL dl ps ds kk tb chain j st
    else if chain ≤ ds.getD j 0 then tdL dl ps ds kk tb chain j (st.1, st.2.1, st.2.2 + 1)
    else
      let d := dl (((ps[j]?).map PIt.b).getD []) tb
      if d.2 = 0 ∧ d.1.length < st.2.1.length then tdL dl ps ds kk tb chain j ((j : Int), d.1, st.2.2 + 1) else tdL dl ps ds kk tb chain j (st.1, st.2.1, st.2.2 + 1)
def intsV (l : List Int) : List Value := l.map fun n => Value.int .i64 n
theorem ints_cell {w : World} {A : Option Addr} {l : List Int} (h : Lies w A (intsV l)) {j : Nat} (hj : j < l.length) : ∃ b o, A = some ⟨b, o, none⟩ ∧ w.cell? ⟨b, o + j, none⟩ = some (.int .i64 (l.getD j 0)) := by
  rcases h with h | ⟨b, o, rfl, hc⟩
  · have : l = [] := by simpa [intsV] using h
    subst this
    simp at hj
  · exact ⟨b, o, rfl, hc j _ (by rw [intsV, List.getElem?_map, List.getD_eq_getElem?_getD, List.getElem?_eq_getElem hj]; rfl)⟩

theorem Lies.frP {w w' : World} {A : Option Addr} {xs : List Value} {g : Nat} {t : TypeId} {cs : Array Value} (h : Lies w A xs) (f : Fr (fun j => j = g) w w') (hw : Whole w g t cs) (hd : ∀ u, xs[0]? = some u → ∀ i : Nat, cs[i]? ≠ some u) : Lies w' A xs := by
  rcases h with h | ⟨b, o, rfl, hc⟩
  · exact .inl h
  · by_cases e : b = g
    · left
      subst e
      cases xs with
      | nil => rfl
      | cons u xs => exact absurd ((hw.cell (o + 0)).symm.trans (hc 0 u rfl)) (hd u rfl _)
    · exact .inr ⟨b, o, rfl, fun j u hu => f.cell (hc j u hu) e⟩
theorem three_getP {a b c u : Value} {i : Nat} (h : (#[a, b, c] : Array Value)[i]? = some u) : u = a ∨ u = b ∨ u = c := by
  rcases i with _ | _ | _ | i
  · simp at h; exact .inl h.symm
  · simp at h; exact .inr (.inl h.symm)
  · simp at h; exact .inr (.inr h.symm)
  · simp at h
theorem Scr.frP {w w' : World} {A : Option Addr} {c : Nat} {ps : List POp} {g : Nat} {t : TypeId} {a b : Int} {X : Option Addr} {m k : Nat} (h : Scr w A c ps) (f : Fr (fun j => j = g) w w') (hw : Whole w g t #[.int .i64 a, .int .i64 b, .slice X m k]) : Scr w' A c ps := by
  refine ⟨h.lies.frP f hw (fun u hu i e => ?_), fun p hp => ?_, h.le, h.cap⟩
  · cases ps with
    | nil => simp [flatP] at hu
    | cons p ps =>
      simp [flatP, POp.cells] at hu
      subst hu
      rcases three_getP e with e | e | e <;> cases e
  · have h0 := h.ok p hp
    refine ⟨h0.f, h0.n, h0.le, h0.cap, h0.lies.frP f hw (fun u hu i e => ?_)⟩
    cases hb : p.o.b with
    | nil => rw [hb] at hu; simp [bytesV] at hu
    | cons x xs =>
      rw [hb] at hu
      simp [bytesV, byteV] at hu
      subst hu
      rcases three_getP e with e | e | e <;> cases e
/-- As wpAnyH_take; the destination is set at once. -/
theorem wpAnyH_takeQ {P : Program} {ops : Array Oper} {Q : Exit → Act → World → Prop} {md : Region.Mode} {S : World → Prop} {i : Nat} {oi : Oper} {v : Value} {fuel : Nat} {listed : Array Bool} {t : Array Value} {df : List Deferred} {w : World} (d : Tmp) (hi : ops[i]? = some oi) (hd : oi.dst = some d)
    (hs : Region.noSelect ops = true) (hf : Region.free md ops listed i = true) (hr : (Region.ready md ops listed).contains i = true)
    (hQ : ∀ c a w, Q (.panic c) (a.put oi.dst v) w → Q (.panic c) a w) (hy : YieldsIf P ops S oi v { tmps := t, defers := df }) (hS : S w)
    (h : wpAnyH P md ops Q S fuel (listed.setIfInBounds i true) { tmps := t.setIfInBounds d v, defers := df } w) : wpAnyH P md ops Q S (fuel + 1) listed { tmps := t, defers := df } w :=
  wpAnyH_take hi hs hf hr hQ hy hS (by rw [hd]; exact h)
set_option maxHeartbeats 12800000 in
set_option maxRecDepth 100000 in
theorem QPtold_any (mk : List UInt8 → List UInt8 → List DOp) (pt : Int → Int → List DOp → List UInt8 × Int)
    (hmk : ∀ (A B : Option Addr) (c d : Nat) (xs ys : List UInt8) (w : World), xs.length ≤ 4000 → ys.length ≤ 4000 → xs.length ≤ c → ys.length ≤ d → Lies w A (bytesV xs) → Lies w B (bytesV ys) → Calls Tryz.prog 52 #[.slice A xs.length c, .slice B ys.length d] w fun e w' => ∃ A' c' ps, e = .returned (.tuple #[.agg #[.int .i64 xs.length, .int .i64 ys.length, .slice A' ps.length c'], .int .i64 0]) ∧ Scr w' A' c' ps ∧ opsO ps = mk xs ys ∧ Below w.heap.size w w')
    (hpt : ∀ (b t : Int) (A : Option Addr) (c : Nat) (ps : List POp) (w : World), Scr w A c ps → Calls Tryz.prog 53 #[.agg #[.int .i64 b, .int .i64 t, .slice A ps.length c]] w fun e w' => ∃ A' c', e = .returned (.tuple #[.slice A' (pt b t (opsO ps)).1.length c', .int .i64 (pt b t (opsO ps)).2]) ∧ (pt b t (opsO ps)).1.length ≤ c' ∧ c' ≤ 9223372036854775807 ∧ Lies w' A' (bytesV (pt b t (opsO ps)).1) ∧ Below w.heap.size w w')
    (A : Option Addr) (c : Nat) (ps : List PIt) (DA : Option Addr) (dc : Nat) (ds : List Int) (k : Nat) (chain : Int) (w : World) (h : Its w A c ps) (hd : Lies w DA (intsV ds)) (hk : k < ps.length) (hkd : k ≤ ds.length) (hb : ∀ p ∈ ps, p.b.length ≤ 4000) (q : PIt) (hq : ps[k]? = some q) :
    Calls Tryz.prog 30 #[.slice A ps.length c, .slice DA ds.length dc, .int .i64 k, .int .i64 chain] w fun e w' => ∃ A' c' bi ld, tdL (fun xs ys => pt xs.length ys.length (mk xs ys)) ps ds q.k q.b chain k (-1, q.b, 0) = (bi, ld) ∧ e = .returned (.tuple #[.int .i64 bi, .slice A' ld.length c']) ∧ ld.length ≤ c' ∧ c' ≤ 9223372036854775807 ∧ Lies w' A' (bytesV ld) ∧ Below w.heap.size w w' := by
  have HMK := Lib.hid hmk
  have HPT := Lib.hid hpt
  have HI := Lib.hid h
  have HD := Lib.hid hd
  have HB := Lib.hid hb
  have HKd := Lib.hid hkd
  have hok := h.ok q (List.mem_of_getElem? hq)
  have HOk := Lib.hid hok
  have HQ := Lib.hid hq
  obtain ⟨ab, ao, rfl⟩ := h.addr hk
  obtain ⟨c0, c1⟩ := h.cells hq
  obtain ⟨⟨RB, RL⟩, hR⟩ : ∃ R, tdL (fun xs ys => pt xs.length ys.length (mk xs ys)) ps ds q.k q.b chain k (-1, q.b, 0) = R := ⟨_, rfl⟩
  have HR := Lib.hid hR
  rw [hR]
  obtain ⟨L, hL⟩ : ∃ L, ps.length = L := ⟨_, rfl⟩
  have HL := Lib.hid hL
  have hLc : L ≤ 9223372036854775807 := by have := h.le; have := h.cap; omega
  obtain ⟨DN, hDN⟩ : ∃ DN, ds.length = DN := ⟨_, rfl⟩
  have HDN := Lib.hid hDN
  obtain ⟨kk, bb, B, pc⟩ := q
  simp only at c0 c1
  obtain ⟨BL, hBL⟩ : ∃ BL, bb.length = BL := ⟨_, rfl⟩
  have HBL := Lib.hid hBL
  rw [hBL] at c1
  rw [hL] at hk ⊢
  rw [hDN] at hkd ⊢
  have hk0 : (0 : Int) ≤ k := by omega
  have hk1 : (k : Int) < L := by omega
  have hkw : IntKind.i64.wrap ((k : Int) - 1) = (k : Int) - 1 := by rw [IntKind.wrap_i64]; omega
  clear hmk hpt h hd hb hok hq hR hL hDN hBL
  go_enter Tryz.func30, Tryz.ntmps30
  go_wp2_with fail
  go_loopw [10, 11, 12, 13] (fun s10 s11 s12 s13 wr => ∃ (m sn : Nat) (jv bi : Int) (A' : Option Addr) (c' : Nat) (ld : List UInt8), s10 = .int .i64 bi ∧ s11 = .slice A' ld.length c' ∧ s12 = .int .i64 sn ∧ s13 = .int .i64 jv ∧ sn ≤ 4 ∧ -1 ≤ jv ∧ jv < L ∧ Hid (jv = (m : Int) - 1 ∧ m ≤ k) ∧ Hid (ld.length ≤ c' ∧ c' ≤ 9223372036854775807) ∧
      Hid (Lies wr A' (bytesV ld)) ∧ Hid (tdL (fun xs ys => pt xs.length ys.length (mk xs ys)) ps ds kk bb chain m (bi, ld, sn) = (RB, RL)) ∧ Hid (Fr (fun _ => False) w wr)) (fun _ _ _ s13 _ => (intOf s13 + 1).toNat)
  case atStart =>
    exact ⟨k, 0, (k : Int) - 1, -1, B, pc, bb, rfl, by rw [HBL.out], rfl, rfl, by omega, by omega, by omega, Lib.hid ⟨rfl, Nat.le_refl _⟩, Lib.hid ⟨HOk.out.le, HOk.out.cap⟩, Lib.hid HOk.out.lies, HR, Lib.hid (Fr.refl _ _)⟩
  case round =>
    obtain ⟨m, sn, jv, bi, A', c', ld, rfl, rfl, rfl, rfl, hs4, hj0, hjL, HJ, HC, HLi, HT, HF⟩ := hrel
    by_cases hj : 0 ≤ jv
    · obtain ⟨n, rfl⟩ := Int.eq_ofNat_of_zero_le hj
      obtain rfl : m = n + 1 := by have := HJ.out; omega
      have hnk : n + 1 ≤ k := HJ.out.2
      have hnL : (n : Int) < L := by omega
      obtain ⟨p, hp⟩ : ∃ p, ps[n]? = some p := ⟨ps[n]'(by rw [HL.out]; omega), List.getElem?_eq_getElem (by rw [HL.out]; omega)⟩
      have HIr := Lib.hid (HI.out.fr HF.out)
      obtain ⟨d0, d1⟩ := HIr.out.cells hp
      obtain ⟨e0, e1⟩ := HIr.out.cells HQ.out
      have HOp := Lib.hid (HIr.out.ok p (List.mem_of_getElem? hp))
      have HBp := Lib.hid (HB.out p (List.mem_of_getElem? hp))
      have HPn := Lib.hid hp
      obtain ⟨b', o', hDA, hdc⟩ := ints_cell (HD.out.fr HF.out (fun _ _ e => e)) (j := n) (by rw [HDN.out]; omega)
      have hT := HT.out
      unfold tdL at hT
      rw [hp] at hT
      simp only [Option.map_some] at hT
      obtain ⟨kj, bj, Bj, cj⟩ := p
      simp only at d0 d1 e0 e1 hT
      rw [HBL.out] at e1
      obtain ⟨JL, hJL⟩ : ∃ JL, bj.length = JL := ⟨_, rfl⟩
      have HJL := Lib.hid hJL
      rw [hJL] at d1
      obtain ⟨dv, hdv⟩ : ∃ dv, ds.getD n 0 = dv := ⟨_, rfl⟩
      rw [hdv] at hdc hT
      subst hDA
      have hn1 : IntKind.i64.wrap ((n : Int) - 1) = (n : Int) - 1 := by rw [IntKind.wrap_i64]; omega
      have hs1 : IntKind.i64.wrap ((sn : Int) + 1) = (sn : Int) + 1 := by rw [IntKind.wrap_i64]; omega
      have hs0 : (0 : Int) ≤ sn := by omega
      have hnd : (n : Int) < DN := by omega
      have hn0 : (0 : Int) ≤ n := by omega
      clear hp hJL hdv hj
      by_cases hkj : kj = kk
      · subst hkj
        by_cases h4 : sn = 4
        · rw [if_pos (Or.inr h4)] at hT
          have HTn := Lib.hid hT
          have h4' : ((sn : Int) == 4) = true := by simp; omega
          clear hT h4
          (
            go_upto_region 7 with fail
            go_big_region
            have HFz := Lib.hid (show Fr (fun _ => False) wr wr.drew from (Fr.refl _ wr).drew)
            obtain ⟨wz, hwz⟩ : ∃ wz, wr.drew = wz := ⟨_, rfl⟩
            have hdz : wz.cell? ⟨b', o' + n, none⟩ = some (.int .i64 dv) := by rw [← hwz]; exact hdc
            rw [hwz]
            rw [hwz] at HFz
            clear hwz)
          (
            go_wp2_with fail
            go_roundw
            case rel => exact ⟨n, sn, (n : Int) - 1, bi, A', c', ld, rfl, rfl, by go_num, rfl, by omega, by omega, by omega, Lib.hid ⟨rfl, by omega⟩, HC, Lib.hid (HLi.out.fr HFz.out (fun _ _ e => e)), HTn, Lib.hid (HF.out.trans HFz.out (fun _ _ e => e))⟩
            case measure => first | (simp [intOf]; done) | (simp [intOf]; omega))
        · rw [if_neg (by simp [h4])] at hT
          have h4' : ((sn : Int) == 4) = false := by simp; omega
          by_cases hch : chain ≤ dv
          · rw [if_pos hch] at hT
            have HTn := Lib.hid hT
            have h4n : sn < 4 := by omega
            clear hT h4
            (
              go_upto_region 7 with fail
              go_big_region
              have HFz := Lib.hid (show Fr (fun _ => False) wr wr.drew from (Fr.refl _ wr).drew)
              obtain ⟨wz, hwz⟩ : ∃ wz, wr.drew = wz := ⟨_, rfl⟩
              have hdz : wz.cell? ⟨b', o' + n, none⟩ = some (.int .i64 dv) := by rw [← hwz]; exact hdc
              rw [hwz]
              rw [hwz] at HFz
              clear hwz)
            (
              go_wp2_with fail
              go_roundw
              case rel => exact ⟨n, (sn + 1), (n : Int) - 1, bi, A', c', ld, rfl, rfl, by go_num, rfl, by omega, by omega, by omega, Lib.hid ⟨rfl, by omega⟩, HC, Lib.hid (HLi.out.fr HFz.out (fun _ _ e => e)), HTn, Lib.hid (HF.out.trans HFz.out (fun _ _ e => e))⟩
              case measure => first | (simp [intOf]; done) | (simp [intOf]; omega))
          · rw [if_neg hch] at hT
            have h4n : sn < 4 := by omega
            have hch' : ¬ chain ≤ dv := hch
            obtain ⟨⟨dl, de⟩, hdl⟩ : ∃ r, pt bj.length bb.length (mk bj bb) = r := ⟨_, rfl⟩
            simp only [Option.getD_some, hdl] at hT
            have hpq := fun A1 (c1 : Nat) (us : List POp) (e : opsO us = mk bj bb) w' (s : Scr w' A1 c1 us) => by
              have := HPT.out bj.length bb.length A1 c1 us w' s
              rw [e, hdl] at this
              exact this
            simp only at hpq
            obtain ⟨DL, hDL⟩ : ∃ DL, dl.length = DL := ⟨_, rfl⟩
            simp only [hDL, HJL.out, HBL.out] at hpq
            have HDLn := Lib.hid hDL
            have HPq := Lib.hid hpq
            obtain ⟨LD, hLD⟩ : ∃ LD, ld.length = LD := ⟨_, rfl⟩
            have HLD := Lib.hid hLD
            rw [hLD, hDL] at hT
            rw [hLD]
            have HT2 := Lib.hid hT
            clear hpq hDL hLD hdl
            have HMc := Lib.hid (fun w' (f : Fr (fun _ => False) wr w') => HMK.out Bj B cj pc bj bb w' HBp.out (HB.out _ (List.mem_of_getElem? HQ.out)) HOp.out.le HOk.out.le (HOp.out.lies.fr f (fun _ _ e => e)) ((HOk.out.lies.fr HF.out (fun _ _ e => e)).fr f (fun _ _ e => e)))
            simp only [HJL.out, HBL.out] at HMc
            clear hT h4 hch
            (
              go_upto_region 7 with fail
              go_big_region
              have HFz := Lib.hid (show Fr (fun _ => False) wr wr.drew from (Fr.refl _ wr).drew)
              obtain ⟨wz, hwz⟩ : ∃ wz, wr.drew = wz := ⟨_, rfl⟩
              have hdz : wz.cell? ⟨b', o' + n, none⟩ = some (.int .i64 dv) := by rw [← hwz]; exact hdc
              rw [hwz]
              rw [hwz] at HFz
              clear hwz)
            go_upto_region 10 with fail
            have q1 := Lib.hid (fun q : Later wz => (HIr.out.fr (HFz.out.trans q.fr (fun _ _ e => e))).cells HPn.out)
            have q2 := Lib.hid (fun q : Later wz => (HIr.out.fr (HFz.out.trans q.fr (fun _ _ e => e))).cells HQ.out)
            simp only [HJL.out, HBL.out] at q1 q2
            have HSq := Lib.hid (show ∃ q : Later wz, wz.drew = q.w' from ⟨⟨_, (Fr.refl _ wz).drew⟩, rfl⟩)
            refine wp_region_held (S := fun w' => ∃ q : Later wz, w' = q.w') (by kernel_rfl) ?_
            (
              refine wpAnyH_takeQ (i := 0) (v := .slice (some ⟨ab, ao, none⟩) L c) 53 rfl rfl (by kernel_rfl) (by kernel_rfl) (by kernel_rfl) (fun _ _ _ h => h) (.inl ⟨by rfl, ?_⟩) HSq.out ?_
              · rintro _ ⟨q, rfl⟩
                go_simp)
            (
              refine wpAnyH_takeQ (i := 1) (v := .int .i64 n) 54 rfl rfl (by kernel_rfl) (by kernel_rfl) (by kernel_rfl) (fun _ _ _ h => h) (.inl ⟨by rfl, ?_⟩) HSq.out ?_
              · rintro _ ⟨q, rfl⟩
                go_simp)
            (
              refine wpAnyH_takeQ (i := 2) (v := .pointer (some ⟨ab, ao + n * 2, none⟩)) 55 rfl rfl (by kernel_rfl) (by kernel_rfl) (by kernel_rfl) (fun _ _ _ h => h) (.inl ⟨by rfl, ?_⟩) HSq.out ?_
              · rintro _ ⟨q, rfl⟩
                go_simp)
            (
              refine wpAnyH_takeQ (i := 3) (v := .pointer (some ⟨ab, ao + n * 2 + 1, none⟩)) 56 rfl rfl (by kernel_rfl) (by kernel_rfl) (by kernel_rfl) (fun _ _ _ h => h) (.inl ⟨by rfl, ?_⟩) HSq.out ?_
              · rintro _ ⟨q, rfl⟩
                go_simp)
            (
              refine wpAnyH_takeQ (i := 4) (v := .slice Bj JL cj) 57 rfl rfl (by kernel_rfl) (by kernel_rfl) (by kernel_rfl) (fun _ _ _ h => h) (.inl ⟨by rfl, ?_⟩) HSq.out ?_
              · rintro _ ⟨q, rfl⟩
                have xc := q1.out q
                go_simp)
            (
              refine wpAnyH_takeQ (i := 5) (v := .slice (some ⟨ab, ao, none⟩) L c) 58 rfl rfl (by kernel_rfl) (by kernel_rfl) (by kernel_rfl) (fun _ _ _ h => h) (.inl ⟨by rfl, ?_⟩) HSq.out ?_
              · rintro _ ⟨q, rfl⟩
                go_simp)
            (
              refine wpAnyH_takeQ (i := 6) (v := .int .i64 k) 59 rfl rfl (by kernel_rfl) (by kernel_rfl) (by kernel_rfl) (fun _ _ _ h => h) (.inl ⟨by rfl, ?_⟩) HSq.out ?_
              · rintro _ ⟨q, rfl⟩
                go_simp)
            (
              refine wpAnyH_takeQ (i := 7) (v := .pointer (some ⟨ab, ao + k * 2, none⟩)) 60 rfl rfl (by kernel_rfl) (by kernel_rfl) (by kernel_rfl) (fun _ _ _ h => h) (.inl ⟨by rfl, ?_⟩) HSq.out ?_
              · rintro _ ⟨q, rfl⟩
                go_simp)
            (
              refine wpAnyH_takeQ (i := 8) (v := .pointer (some ⟨ab, ao + k * 2 + 1, none⟩)) 61 rfl rfl (by kernel_rfl) (by kernel_rfl) (by kernel_rfl) (fun _ _ _ h => h) (.inl ⟨by rfl, ?_⟩) HSq.out ?_
              · rintro _ ⟨q, rfl⟩
                go_simp)
            (
              refine wpAnyH_takeQ (i := 9) (v := .slice B BL pc) 62 rfl rfl (by kernel_rfl) (by kernel_rfl) (by kernel_rfl) (fun _ _ _ h => h) (.inl ⟨by rfl, ?_⟩) HSq.out ?_
              · rintro _ ⟨q, rfl⟩
                have xc := q2.out q
                go_simp)
            try simp only [List.setIfInBounds_toArray, List.set_cons_succ, List.set_cons_zero]
            change wpAnyH _ _ _ _ _ _ _ _ (World.drew wz)
            have HFc := Lib.hid (show Fr (fun _ => False) wz wz.drew from (Fr.refl _ wz).drew)
            obtain ⟨wc, hwc⟩ : ∃ wc, wz.drew = wc := ⟨_, rfl⟩
            rw [hwc]
            rw [hwc] at HFc
            clear hwc HSq q1 q2
            refine wpAnyH_all (rs := [10, 14]) (by kernel_rfl) (by simp) ?_
            intro i hi
            simp only [List.mem_cons, List.not_mem_nil, or_false] at hi
            rcases hi with rfl | rfl
            · (
              refine wpOp_step rfl (fun K hK => ?_)
              go_simp)
              (
                go_wp2_with (go_at_call 52; refine (HMc.out wc (HFz.out.trans HFc.out (fun _ _ e => e))).mono ?_; rintro e wc ⟨A1, c1, us, rfl, s1, o1, b1⟩; have HS1 := Lib.hid s1; have HO1 := Lib.hid o1; skip; have HFc := Lib.hid (HFc.out.then_below b1); clear s1 o1 b1)
                refine ⟨⟨⟨_, HFc.out⟩, rfl⟩, ?_⟩
                obtain ⟨UL, hUL⟩ : ∃ UL, us.length = UL := ⟨_, rfl⟩
                have HUL := Lib.hid hUL
                rw [hUL]
                clear hUL
                have HSq := Lib.hid (show ∃ q : Later wz, wc = q.w' from ⟨⟨_, HFc.out⟩, rfl⟩)
                try simp only [List.setIfInBounds_toArray, List.set_cons_succ, List.set_cons_zero]
                (
                  refine wpAnyH_takeQ (i := 11) (v := .tuple #[.agg #[.int .i64 JL, .int .i64 BL, .slice A1 UL c1], .int .i64 0]) 52 rfl rfl (by kernel_rfl) (by kernel_rfl) (by kernel_rfl) (fun _ _ _ h => h) (.inl ⟨by rfl, ?_⟩) HSq.out ?_
                  · rintro _ ⟨q, rfl⟩
                    go_simp)
                (
                  refine wpAnyH_takeQ (i := 12) (v := .agg #[.int .i64 JL, .int .i64 BL, .slice A1 UL c1]) 64 rfl rfl (by kernel_rfl) (by kernel_rfl) (by kernel_rfl) (fun _ _ _ h => h) (.inl ⟨by rfl, ?_⟩) HSq.out ?_
                  · rintro _ ⟨q, rfl⟩
                    go_simp)
                (
                  refine wpAnyH_takeQ (i := 13) (v := .int .i64 0) 65 rfl rfl (by kernel_rfl) (by kernel_rfl) (by kernel_rfl) (fun _ _ _ h => h) (.inl ⟨by rfl, ?_⟩) HSq.out ?_
                  · rintro _ ⟨q, rfl⟩
                    go_simp)
                clear HSq)
              (
                try simp only [List.setIfInBounds_toArray, List.set_cons_succ, List.set_cons_zero]
                refine wpAnyH_all (rs := [14]) (by kernel_rfl) (by simp) ?_
                intro i hi
                simp only [List.mem_cons, List.not_mem_nil, or_false] at hi
                subst hi)
              (
                refine wpOp_step rfl (fun K hK => ?_)
                obtain ⟨wold, hwold⟩ : ∃ wold, wold = wc := ⟨_, rfl⟩
                subst hwold
                obtain ⟨wc, hwa⟩ : ∃ wc, wold.alloc (.cells #[.int .i64 0, .int .i64 0, .slice none 0 0] 94) = wc := ⟨_, rfl⟩
                have hfa : Fr (fun _ => False) wold wc := by rw [← hwa]; exact (Fr.refl _ wold).alloc _
                have hWa : Whole wc wold.heap.size 94 #[.int .i64 0, .int .i64 0, .slice none 0 0] := by rw [← hwa]; exact Whole.new _ _ _
                obtain ⟨ga7, hga7⟩ : ∃ ga7, wold.heap.size = ga7 := ⟨_, rfl⟩
                rw [hga7] at hWa
                have HWa := Lib.hid hWa
                have HGa7 := Lib.hid (show wz.heap.size ≤ ga7 from by have := HFc.out.size; omega)
                have HFc := Lib.hid (HFc.out.trans hfa (fun _ _ e => e))
                have HS1 := Lib.hid (HS1.out.fr hfa)
                clear hfa hWa
                go_simp
                refine hK _ _ ⟨⟨⟨_, HFc.out⟩, rfl⟩, ?_⟩
                clear hK K hwa hga7)
              (
                have e0 : wc.cell? ⟨ga7, 0, none⟩ = some (.int .i64 0) := by rw [HWa.out.cell]; rfl
                have e1' : wc.cell? ⟨ga7, 1, none⟩ = some (.int .i64 0) := by rw [HWa.out.cell]; rfl
                have e2 : wc.cell? ⟨ga7, 2, none⟩ = some (.slice none 0 0) := by rw [HWa.out.cell]; rfl
                have z0 := HWa.out.frozen 0
                have z1 := HWa.out.frozen 1
                have z2 := HWa.out.frozen 2
                have fset : Fr (fun j => j = ga7) wc (((wc.setCell ⟨ga7, 0, none⟩ (.int .i64 JL)).setCell ⟨ga7, 1, none⟩ (.int .i64 BL)).setCell ⟨ga7, 2, none⟩ (.slice A1 UL c1)) :=
                  (((Fr.refl (fun j => j = ga7) wc).setCell (p := ⟨ga7, 0, none⟩) (fun _ => rfl) _).setCell (p := ⟨ga7, 1, none⟩) (fun _ => rfl) _).setCell (p := ⟨ga7, 2, none⟩) (fun _ => rfl) _
                (
                  try simp only [List.setIfInBounds_toArray, List.set_cons_succ, List.set_cons_zero]
                  refine wpAnyH_all (rs := [15]) (by kernel_rfl) (by simp) ?_
                  intro i hi
                  simp only [List.mem_cons, List.not_mem_nil, or_false] at hi
                  subst hi)
                refine wpOp_step rfl (fun K hK => ?_)
                obtain ⟨ws, hws⟩ : ∃ ws, ((wc.setCell ⟨ga7, 0, none⟩ (.int .i64 JL)).setCell ⟨ga7, 1, none⟩ (.int .i64 BL)).setCell ⟨ga7, 2, none⟩ (.slice A1 UL c1) = ws := ⟨_, rfl⟩
                have hwsW : Whole ws ga7 94 #[.int .i64 JL, .int .i64 BL, .slice A1 UL c1] := by rw [← hws]; exact ((HWa.out.set 0 _).set 1 _).set 2 _
                rw [hws] at fset
                have HFs := Lib.hid (show Fr (fun _ => False) wz ws from HFc.out.trans fset (fun i hi e => by have := HGa7.out; omega))
                have HSs := Lib.hid (show Scr ws A1 c1 us from HS1.out.frP fset HWa.out)
                have HWs := Lib.hid hwsW
                go_simp
                refine hK _ _ ⟨⟨⟨_, HFs.out⟩, rfl⟩, ?_⟩
                clear hK K hws fset hwsW
                (
                  try simp only [List.setIfInBounds_toArray, List.set_cons_succ, List.set_cons_zero]
                  refine wpAnyH_all (rs := [16]) (by kernel_rfl) (by simp) ?_
                  intro i hi
                  simp only [List.mem_cons, List.not_mem_nil, or_false] at hi
                  subst hi)
                refine wpOp_step rfl (fun K hK => ?_)
                go_simp
                refine hK _ _ ⟨⟨⟨_, HFs.out⟩, rfl⟩, ?_⟩
                clear hK K
                refine wpAnyH_done (by kernel_rfl) ?_ _
                clear e0 e1' e2 z0 z1 z2
                obtain ⟨t0, t1, t2⟩ : ws.cell? ⟨ga7, 0, none⟩ = some (.int .i64 JL) ∧ ws.cell? ⟨ga7, 1, none⟩ = some (.int .i64 BL) ∧ ws.cell? ⟨ga7, 2, none⟩ = some (.slice A1 UL c1) := ⟨by rw [HWs.out.cell]; rfl, by rw [HWs.out.cell]; rfl, by rw [HWs.out.cell]; rfl⟩
                have HPr := Lib.hid (HPq.out A1 c1 us HO1.out ws HSs.out)
                rw [HUL.out] at HPr
                go_upto_region 12 with (go_at_call 53; refine HPr.out.mono ?_; rintro e wp ⟨A2, c2, rfl, hl2, hm2, l2, b2⟩; have HC2 := Lib.hid (And.intro hl2 hm2); have HL2 := Lib.hid l2; have HFp := Lib.hid ((HFz.out.trans HFs.out (fun _ _ e => e)).then_below b2); clear hl2 hm2 l2 b2)
                by_cases hde : de = 0
                · by_cases hdl : DL < LD
                  · have HTn := Lib.hid (show tdL (fun xs ys => pt xs.length ys.length (mk xs ys)) ps ds kj bb chain n ((n : Int), dl, sn + 1) = (RB, RL) from by have := HT2.out; rwa [if_pos ⟨hde, hdl⟩] at this)
                    have hdl' : (DL : Int) < LD := by omega
                    subst hde
                    go_wp2_with fail
                    go_roundw
                    case rel => exact ⟨n, sn + 1, (n : Int) - 1, (n : Int), A2, c2, dl, rfl, by rw [HDLn.out], by go_num, rfl, by omega, by omega, by omega, Lib.hid ⟨rfl, by omega⟩, Lib.hid ⟨by rw [HDLn.out]; exact HC2.out.1, HC2.out.2⟩, HL2, HTn, Lib.hid (HF.out.trans HFp.out (fun _ _ e => e))⟩
                    case measure => first | (simp [intOf]; done) | (simp [intOf]; omega)
                  · have HTn := Lib.hid (show tdL (fun xs ys => pt xs.length ys.length (mk xs ys)) ps ds kj bb chain n (bi, ld, sn + 1) = (RB, RL) from by have := HT2.out; rwa [if_neg (fun e => hdl e.2)] at this)
                    have hdl' : ¬ (DL : Int) < LD := by omega
                    subst hde
                    go_wp2_with fail
                    go_roundw
                    case rel => exact ⟨n, sn + 1, (n : Int) - 1, bi, A', c', ld, rfl, by rw [HLD.out], by go_num, rfl, by omega, by omega, by omega, Lib.hid ⟨rfl, by omega⟩, HC, Lib.hid (HLi.out.fr HFp.out (fun _ _ e => e)), HTn, Lib.hid (HF.out.trans HFp.out (fun _ _ e => e))⟩
                    case measure => first | (simp [intOf]; done) | (simp [intOf]; omega)
                · have HTn := Lib.hid (show tdL (fun xs ys => pt xs.length ys.length (mk xs ys)) ps ds kj bb chain n (bi, ld, sn + 1) = (RB, RL) from by have := HT2.out; rwa [if_neg (fun e => hde e.1)] at this)
                  have hde' : (de == 0) = false := by simpa using hde
                  clear hde
                  go_wp2_with fail
                  go_roundw
                  case rel => exact ⟨n, sn + 1, (n : Int) - 1, bi, A', c', ld, rfl, by rw [HLD.out], by go_num, rfl, by omega, by omega, by omega, Lib.hid ⟨rfl, by omega⟩, HC, Lib.hid (HLi.out.fr HFp.out (fun _ _ e => e)), HTn, Lib.hid (HF.out.trans HFp.out (fun _ _ e => e))⟩
                  case measure => first | (simp [intOf]; done) | (simp [intOf]; omega))
            · (
              refine wpOp_step rfl (fun K hK => ?_)
              obtain ⟨wold, hwold⟩ : ∃ wold, wold = wc := ⟨_, rfl⟩
              subst hwold
              obtain ⟨wc, hwa⟩ : ∃ wc, wold.alloc (.cells #[.int .i64 0, .int .i64 0, .slice none 0 0] 94) = wc := ⟨_, rfl⟩
              have hfa : Fr (fun _ => False) wold wc := by rw [← hwa]; exact (Fr.refl _ wold).alloc _
              have hWa : Whole wc wold.heap.size 94 #[.int .i64 0, .int .i64 0, .slice none 0 0] := by rw [← hwa]; exact Whole.new _ _ _
              obtain ⟨ga7, hga7⟩ : ∃ ga7, wold.heap.size = ga7 := ⟨_, rfl⟩
              rw [hga7] at hWa
              have HWa := Lib.hid hWa
              have HGa7 := Lib.hid (show wz.heap.size ≤ ga7 from by have := HFc.out.size; omega)
              have HFc := Lib.hid (HFc.out.trans hfa (fun _ _ e => e))
              skip
              clear hfa hWa
              go_simp
              refine hK _ _ ⟨⟨⟨_, HFc.out⟩, rfl⟩, ?_⟩
              clear hK K hwa hga7)
              (
                try simp only [List.setIfInBounds_toArray, List.set_cons_succ, List.set_cons_zero]
                refine wpAnyH_all (rs := [10]) (by kernel_rfl) (by simp) ?_
                intro i hi
                simp only [List.mem_cons, List.not_mem_nil, or_false] at hi
                subst hi)
              (
                refine wpOp_step rfl (fun K hK => ?_)
                go_simp)
              (
                go_wp2_with (go_at_call 52; refine (HMc.out wc (HFz.out.trans HFc.out (fun _ _ e => e))).mono ?_; rintro e wc ⟨A1, c1, us, rfl, s1, o1, b1⟩; have HS1 := Lib.hid s1; have HO1 := Lib.hid o1; have HWa := Lib.hid (HWa.out.fr (Fr.of_below (S := fun _ => False) b1) (fun e => e)); have HFc := Lib.hid (HFc.out.then_below b1); clear s1 o1 b1)
                refine ⟨⟨⟨_, HFc.out⟩, rfl⟩, ?_⟩
                obtain ⟨UL, hUL⟩ : ∃ UL, us.length = UL := ⟨_, rfl⟩
                have HUL := Lib.hid hUL
                rw [hUL]
                clear hUL
                have HSq := Lib.hid (show ∃ q : Later wz, wc = q.w' from ⟨⟨_, HFc.out⟩, rfl⟩)
                try simp only [List.setIfInBounds_toArray, List.set_cons_succ, List.set_cons_zero]
                (
                  refine wpAnyH_takeQ (i := 11) (v := .tuple #[.agg #[.int .i64 JL, .int .i64 BL, .slice A1 UL c1], .int .i64 0]) 52 rfl rfl (by kernel_rfl) (by kernel_rfl) (by kernel_rfl) (fun _ _ _ h => h) (.inl ⟨by rfl, ?_⟩) HSq.out ?_
                  · rintro _ ⟨q, rfl⟩
                    go_simp)
                (
                  refine wpAnyH_takeQ (i := 12) (v := .agg #[.int .i64 JL, .int .i64 BL, .slice A1 UL c1]) 64 rfl rfl (by kernel_rfl) (by kernel_rfl) (by kernel_rfl) (fun _ _ _ h => h) (.inl ⟨by rfl, ?_⟩) HSq.out ?_
                  · rintro _ ⟨q, rfl⟩
                    go_simp)
                (
                  refine wpAnyH_takeQ (i := 13) (v := .int .i64 0) 65 rfl rfl (by kernel_rfl) (by kernel_rfl) (by kernel_rfl) (fun _ _ _ h => h) (.inl ⟨by rfl, ?_⟩) HSq.out ?_
                  · rintro _ ⟨q, rfl⟩
                    go_simp)
                clear HSq)
              (
                have e0 : wc.cell? ⟨ga7, 0, none⟩ = some (.int .i64 0) := by rw [HWa.out.cell]; rfl
                have e1' : wc.cell? ⟨ga7, 1, none⟩ = some (.int .i64 0) := by rw [HWa.out.cell]; rfl
                have e2 : wc.cell? ⟨ga7, 2, none⟩ = some (.slice none 0 0) := by rw [HWa.out.cell]; rfl
                have z0 := HWa.out.frozen 0
                have z1 := HWa.out.frozen 1
                have z2 := HWa.out.frozen 2
                have fset : Fr (fun j => j = ga7) wc (((wc.setCell ⟨ga7, 0, none⟩ (.int .i64 JL)).setCell ⟨ga7, 1, none⟩ (.int .i64 BL)).setCell ⟨ga7, 2, none⟩ (.slice A1 UL c1)) :=
                  (((Fr.refl (fun j => j = ga7) wc).setCell (p := ⟨ga7, 0, none⟩) (fun _ => rfl) _).setCell (p := ⟨ga7, 1, none⟩) (fun _ => rfl) _).setCell (p := ⟨ga7, 2, none⟩) (fun _ => rfl) _
                (
                  try simp only [List.setIfInBounds_toArray, List.set_cons_succ, List.set_cons_zero]
                  refine wpAnyH_all (rs := [15]) (by kernel_rfl) (by simp) ?_
                  intro i hi
                  simp only [List.mem_cons, List.not_mem_nil, or_false] at hi
                  subst hi)
                refine wpOp_step rfl (fun K hK => ?_)
                obtain ⟨ws, hws⟩ : ∃ ws, ((wc.setCell ⟨ga7, 0, none⟩ (.int .i64 JL)).setCell ⟨ga7, 1, none⟩ (.int .i64 BL)).setCell ⟨ga7, 2, none⟩ (.slice A1 UL c1) = ws := ⟨_, rfl⟩
                have hwsW : Whole ws ga7 94 #[.int .i64 JL, .int .i64 BL, .slice A1 UL c1] := by rw [← hws]; exact ((HWa.out.set 0 _).set 1 _).set 2 _
                rw [hws] at fset
                have HFs := Lib.hid (show Fr (fun _ => False) wz ws from HFc.out.trans fset (fun i hi e => by have := HGa7.out; omega))
                have HSs := Lib.hid (show Scr ws A1 c1 us from HS1.out.frP fset HWa.out)
                have HWs := Lib.hid hwsW
                go_simp
                refine hK _ _ ⟨⟨⟨_, HFs.out⟩, rfl⟩, ?_⟩
                clear hK K hws fset hwsW
                (
                  try simp only [List.setIfInBounds_toArray, List.set_cons_succ, List.set_cons_zero]
                  refine wpAnyH_all (rs := [16]) (by kernel_rfl) (by simp) ?_
                  intro i hi
                  simp only [List.mem_cons, List.not_mem_nil, or_false] at hi
                  subst hi)
                refine wpOp_step rfl (fun K hK => ?_)
                go_simp
                refine hK _ _ ⟨⟨⟨_, HFs.out⟩, rfl⟩, ?_⟩
                clear hK K
                refine wpAnyH_done (by kernel_rfl) ?_ _
                clear e0 e1' e2 z0 z1 z2
                obtain ⟨t0, t1, t2⟩ : ws.cell? ⟨ga7, 0, none⟩ = some (.int .i64 JL) ∧ ws.cell? ⟨ga7, 1, none⟩ = some (.int .i64 BL) ∧ ws.cell? ⟨ga7, 2, none⟩ = some (.slice A1 UL c1) := ⟨by rw [HWs.out.cell]; rfl, by rw [HWs.out.cell]; rfl, by rw [HWs.out.cell]; rfl⟩
                have HPr := Lib.hid (HPq.out A1 c1 us HO1.out ws HSs.out)
                rw [HUL.out] at HPr
                go_upto_region 12 with (go_at_call 53; refine HPr.out.mono ?_; rintro e wp ⟨A2, c2, rfl, hl2, hm2, l2, b2⟩; have HC2 := Lib.hid (And.intro hl2 hm2); have HL2 := Lib.hid l2; have HFp := Lib.hid ((HFz.out.trans HFs.out (fun _ _ e => e)).then_below b2); clear hl2 hm2 l2 b2)
                by_cases hde : de = 0
                · by_cases hdl : DL < LD
                  · have HTn := Lib.hid (show tdL (fun xs ys => pt xs.length ys.length (mk xs ys)) ps ds kj bb chain n ((n : Int), dl, sn + 1) = (RB, RL) from by have := HT2.out; rwa [if_pos ⟨hde, hdl⟩] at this)
                    have hdl' : (DL : Int) < LD := by omega
                    subst hde
                    go_wp2_with fail
                    go_roundw
                    case rel => exact ⟨n, sn + 1, (n : Int) - 1, (n : Int), A2, c2, dl, rfl, by rw [HDLn.out], by go_num, rfl, by omega, by omega, by omega, Lib.hid ⟨rfl, by omega⟩, Lib.hid ⟨by rw [HDLn.out]; exact HC2.out.1, HC2.out.2⟩, HL2, HTn, Lib.hid (HF.out.trans HFp.out (fun _ _ e => e))⟩
                    case measure => first | (simp [intOf]; done) | (simp [intOf]; omega)
                  · have HTn := Lib.hid (show tdL (fun xs ys => pt xs.length ys.length (mk xs ys)) ps ds kj bb chain n (bi, ld, sn + 1) = (RB, RL) from by have := HT2.out; rwa [if_neg (fun e => hdl e.2)] at this)
                    have hdl' : ¬ (DL : Int) < LD := by omega
                    subst hde
                    go_wp2_with fail
                    go_roundw
                    case rel => exact ⟨n, sn + 1, (n : Int) - 1, bi, A', c', ld, rfl, by rw [HLD.out], by go_num, rfl, by omega, by omega, by omega, Lib.hid ⟨rfl, by omega⟩, HC, Lib.hid (HLi.out.fr HFp.out (fun _ _ e => e)), HTn, Lib.hid (HF.out.trans HFp.out (fun _ _ e => e))⟩
                    case measure => first | (simp [intOf]; done) | (simp [intOf]; omega)
                · have HTn := Lib.hid (show tdL (fun xs ys => pt xs.length ys.length (mk xs ys)) ps ds kj bb chain n (bi, ld, sn + 1) = (RB, RL) from by have := HT2.out; rwa [if_neg (fun e => hde e.1)] at this)
                  have hde' : (de == 0) = false := by simpa using hde
                  clear hde
                  go_wp2_with fail
                  go_roundw
                  case rel => exact ⟨n, sn + 1, (n : Int) - 1, bi, A', c', ld, rfl, by rw [HLD.out], by go_num, rfl, by omega, by omega, by omega, Lib.hid ⟨rfl, by omega⟩, HC, Lib.hid (HLi.out.fr HFp.out (fun _ _ e => e)), HTn, Lib.hid (HF.out.trans HFp.out (fun _ _ e => e))⟩
                  case measure => first | (simp [intOf]; done) | (simp [intOf]; omega))
      · rw [if_pos (Or.inl (by simpa using hkj))] at hT
        have HTn := Lib.hid hT
        have hkj' : (kj != kk) = true := by simpa using hkj
        clear hT hkj
        (
          go_upto_region 7 with fail
          go_big_region
          have HFz := Lib.hid (show Fr (fun _ => False) wr wr.drew from (Fr.refl _ wr).drew)
          obtain ⟨wz, hwz⟩ : ∃ wz, wr.drew = wz := ⟨_, rfl⟩
          have hdz : wz.cell? ⟨b', o' + n, none⟩ = some (.int .i64 dv) := by rw [← hwz]; exact hdc
          rw [hwz]
          rw [hwz] at HFz
          clear hwz)
        (
          go_wp2_with fail
          go_roundw
          case rel => exact ⟨n, sn, (n : Int) - 1, bi, A', c', ld, rfl, rfl, by go_num, rfl, by omega, by omega, by omega, Lib.hid ⟨rfl, by omega⟩, HC, Lib.hid (HLi.out.fr HFz.out (fun _ _ e => e)), HTn, Lib.hid (HF.out.trans HFz.out (fun _ _ e => e))⟩
          case measure => first | (simp [intOf]; done) | (simp [intOf]; omega))
    · obtain rfl : jv = -1 := by omega
      obtain rfl : m = 0 := by have := HJ.out; omega
      have HT0 := Lib.hid (show (bi, ld) = (RB, RL) from HT.out)
      go_wp2_with fail
      go_ret2
      have h1 := HT0.out
      injection h1 with h1 h2
      exact ⟨A', c', bi, ld, ⟨h1.symm, h2.symm⟩, rfl, HC.out.1, HC.out.2, HLi.out, HF.out.below (fun _ _ e => e)⟩
end Go.Proofs.YtkaeoflgnnlbeaaGreatDoor
/- What is proved: plain facts on a pack that is written: what each object's entry is laid as, by which other one it is told, how long all is. Conditions: each names its own. -/
namespace Go.Proofs.YtkaeoflgnnlbeaaGreatDoor
open Go.RowKit
set_option linter.unusedVariables false

/-- Bytes with an entry behind them: the object's kind, or how far back its base's begins; its load. -/
def layE (xs : List UInt8) (k : Int) (load : List UInt8) (back : Option Nat) : List UInt8 :=
  (match back with
   | none => xs ++ [toB k] ++ varB load.length
   | some d => xs ++ [5] ++ varB load.length ++ varB d) ++ hiB (crcI load) 4 4 ++ load
/-- What is laid so far; where each entry begins, and its load's sum; how deep it lies. -/
abbrev PkS := List UInt8 × List (Nat × Int) × List Int
def stepW (dl : List UInt8 → List UInt8 → List UInt8 × Int) (ps : List PIt) (chain : Int) (k : Nat) (p : PIt) (s : PkS) : PkS :=
  if (tdL dl ps s.2.2 p.k p.b chain k (-1, p.b, 0)).1 < 0 then
    (layE s.1 p.k (tdL dl ps s.2.2 p.k p.b chain k (-1, p.b, 0)).2 none, s.2.1 ++ [(s.1.length, crcI (tdL dl ps s.2.2 p.k p.b chain k (-1, p.b, 0)).2)], s.2.2 ++ [0])
  else (layE s.1 p.k (tdL dl ps s.2.2 p.k p.b chain k (-1, p.b, 0)).2 (some (s.1.length - (s.2.1.getD (tdL dl ps s.2.2 p.k p.b chain k (-1, p.b, 0)).1.toNat (0, 0)).1)),
    s.2.1 ++ [(s.1.length, crcI (tdL dl ps s.2.2 p.k p.b chain k (-1, p.b, 0)).2)], s.2.2 ++ [s.2.2.getD (tdL dl ps s.2.2 p.k p.b chain k (-1, p.b, 0)).1.toNat 0 + 1])
def headP (n : Nat) : List UInt8 := [80, 65, 67, 75] ++ hiB 1 4 4 ++ hiB n 4 4
def wrN (dl : List UInt8 → List UInt8 → List UInt8 × Int) (ps : List PIt) (chain : Int) : Nat → PkS
  | 0 => (headP ps.length, [], [])
  | k + 1 => match ps[k]? with
    | some p => stepW dl ps chain k p (wrN dl ps chain k)
    | none => wrN dl ps chain k

/-- Which objects one may be told by, n being left to look at, s seats. -/
def candL (ps : List PIt) (ds : List Int) (kk chain : Int) : Nat → Nat → List Nat
  | 0, _ => []
  | j + 1, s =>
    if s = 0 then []
    else if ((ps[j]?).map PIt.k) ≠ some kk then candL ps ds kk chain j s
    else if ds.getD j 0 < chain then j :: candL ps ds kk chain j (s - 1)
    else candL ps ds kk chain j (s - 1)
/-- The shortest of their scripts. -/
def bestL (dl : List UInt8 → List UInt8 → List UInt8 × Int) (ps : List PIt) (tb : List UInt8) : List Nat → Option Nat × List UInt8 → Option Nat × List UInt8
  | [], st => st
  | c :: cs, st => if (dl (((ps[c]?).map PIt.b).getD []) tb).1.length < st.2.length then bestL dl ps tb cs (some c, (dl (((ps[c]?).map PIt.b).getD []) tb).1) else bestL dl ps tb cs st
def encO (o : Option Nat) : Int := match o with | none => -1 | some c => (c : Int)
theorem candL_none (ps : List PIt) (ds : List Int) (kk chain : Int) (n : Nat) : candL ps ds kk chain n 0 = [] := by cases n <;> simp [candL]
theorem tdL_best (dl : List UInt8 → List UInt8 → List UInt8 × Int) (ps : List PIt) (ds : List Int) (kk : Int) (tb : List UInt8) (chain : Int) (hdl : ∀ p ∈ ps, (dl p.b tb).2 = 0) (n : Nat) (hn : n ≤ ps.length) (o : Option Nat) (ld : List UInt8) (sn : Nat) (hs : sn ≤ 4) :
    tdL dl ps ds kk tb chain n (encO o, ld, sn) = (encO (bestL dl ps tb (candL ps ds kk chain n (4 - sn)) (o, ld)).1, (bestL dl ps tb (candL ps ds kk chain n (4 - sn)) (o, ld)).2) := by
  induction n generalizing o ld sn with
  | zero => simp [tdL, candL, bestL]
  | succ j ih =>
    unfold tdL
    by_cases h4 : sn = 4
    · subst h4
      rw [if_pos (.inr rfl), ih (by omega) o ld 4 (by omega), Nat.sub_self, candL_none, candL_none]
    · by_cases hk : ((ps[j]?).map PIt.k) ≠ some kk
      · rw [if_pos (.inl hk), ih (by omega) o ld sn hs]
        conv => rhs; unfold candL
        rw [if_neg (show ¬ 4 - sn = 0 by omega), if_pos hk]
      · rw [if_neg (by intro e; rcases e with e | e; exact hk e; exact h4 e)]
        conv => rhs; unfold candL
        rw [if_neg (show ¬ 4 - sn = 0 by omega), if_neg hk, show 4 - sn - 1 = 4 - (sn + 1) by omega]
        by_cases hc : chain ≤ ds.getD j 0
        · rw [if_pos hc, if_neg (show ¬ ds.getD j 0 < chain by omega), ih (by omega) o ld (sn + 1) (by omega)]
        · rw [if_neg hc, if_pos (show ds.getD j 0 < chain by omega)]
          have hpj : ps[j]? = some ps[j] := List.getElem?_eq_getElem (by omega)
          have h0 : (dl (((ps[j]?).map PIt.b).getD []) tb).2 = 0 := by rw [hpj]; exact hdl _ (List.getElem_mem _)
          simp only
          generalize hD : dl (((ps[j]?).map PIt.b).getD []) tb = D at h0
          unfold bestL
          rw [hD]
          by_cases hl : D.1.length < ld.length
          · rw [if_pos ⟨h0, hl⟩, if_pos hl]
            exact ih (by omega) (some j) D.1 (sn + 1) (by omega)
          · rw [if_neg (fun e => hl e.2), if_neg hl]
            exact ih (by omega) o ld (sn + 1) (by omega)
theorem candL_lt (ps : List PIt) (ds : List Int) (kk chain : Int) (n s : Nat) : ∀ c ∈ candL ps ds kk chain n s, c < n ∧ ((ps[c]?).map PIt.k) = some kk ∧ ds.getD c 0 < chain := by
  induction n generalizing s with
  | zero => simp [candL]
  | succ j ih =>
    intro c hc
    unfold candL at hc
    split at hc
    · simp at hc
    · split at hc
      · have := ih _ c hc; exact ⟨by omega, this.2⟩
      · rename_i hk
        split at hc
        · rename_i hd
          rcases List.mem_cons.1 hc with h | h
          · subst h; exact ⟨by omega, Decidable.not_not.1 hk, hd⟩
          · have := ih _ c h; exact ⟨by omega, this.2⟩
        · have := ih _ c hc; exact ⟨by omega, this.2⟩
theorem candL_len (ps : List PIt) (ds : List Int) (kk chain : Int) (n s : Nat) : (candL ps ds kk chain n s).length ≤ s := by
  induction n generalizing s with
  | zero => simp [candL]
  | succ j ih =>
    unfold candL
    split
    · simp
    · split
      · exact ih _
      · split
        · have := ih (s - 1); simp; omega
        · have := ih (s - 1); omega
theorem bestL_prop (dl : List UInt8 → List UInt8 → List UInt8 × Int) (ps : List PIt) (tb : List UInt8) (cs : List Nat) (st : Option Nat × List UInt8) :
    (bestL dl ps tb cs st = st ∨ ∃ c ∈ cs, (bestL dl ps tb cs st).1 = some c ∧ (bestL dl ps tb cs st).2 = (dl (((ps[c]?).map PIt.b).getD []) tb).1) ∧ (bestL dl ps tb cs st).2.length ≤ st.2.length := by
  induction cs generalizing st with
  | nil => exact ⟨.inl rfl, Nat.le_refl _⟩
  | cons c cs ih =>
    unfold bestL
    split
    · rename_i h
      have h1 := ih (some c, (dl (((ps[c]?).map PIt.b).getD []) tb).1)
      refine ⟨.inr ?_, by have := h1.2; simp only at this; omega⟩
      rcases h1.1 with h2 | ⟨c', hc', h2⟩
      · rw [h2]; exact ⟨c, by simp, rfl, rfl⟩
      · exact ⟨c', by simp [hc'], h2⟩
    · have h1 := ih st
      refine ⟨?_, h1.2⟩
      rcases h1.1 with h2 | ⟨c', hc', h2⟩
      · exact .inl h2
      · exact .inr ⟨c', by simp [hc'], h2⟩
/-- What is told of an object: it is whole, or by one ahead of it, of its kind, whose depth is below; the load is its script. -/
theorem tdL_prop (dl : List UInt8 → List UInt8 → List UInt8 × Int) (ps : List PIt) (ds : List Int) (kk : Int) (tb : List UInt8) (chain : Int) (hdl : ∀ p ∈ ps, (dl p.b tb).2 = 0) (n : Nat) (hn : n ≤ ps.length) :
    ((tdL dl ps ds kk tb chain n (-1, tb, 0)).1 = -1 ∧ (tdL dl ps ds kk tb chain n (-1, tb, 0)).2 = tb ∨
      ∃ (c : Nat) (p : PIt), (tdL dl ps ds kk tb chain n (-1, tb, 0)).1 = c ∧ c < n ∧ ps[c]? = some p ∧ p.k = kk ∧ ds.getD c 0 < chain ∧ (tdL dl ps ds kk tb chain n (-1, tb, 0)).2 = (dl p.b tb).1) ∧
    (tdL dl ps ds kk tb chain n (-1, tb, 0)).2.length ≤ tb.length := by
  have h := tdL_best dl ps ds kk tb chain hdl n hn none tb 0 (by omega)
  simp only [encO] at h
  rw [h]
  have h1 := bestL_prop dl ps tb (candL ps ds kk chain n (4 - 0)) (none, tb)
  refine ⟨?_, h1.2⟩
  rcases h1.1 with h2 | ⟨c, hc, h2, h3⟩
  · rw [h2]; exact .inl ⟨rfl, rfl⟩
  · obtain ⟨g1, g2, g3⟩ := candL_lt _ _ _ _ _ _ c hc
    obtain ⟨p, hp⟩ : ∃ p, ps[c]? = some p := ⟨_, List.getElem?_eq_getElem (by omega)⟩
    rw [hp] at g2 h3
    exact .inr ⟨c, p, by rw [h2], g1, hp, by simpa using g2, g3, by rw [h3]; rfl⟩

theorem layE_len (xs : List UInt8) (k : Int) (load : List UInt8) (back : Option Nat) : xs.length + 6 ≤ (layE xs k load back).length - load.length ∧ (layE xs k load back).length ≤ xs.length + 25 + load.length := by
  have h1 := varB_length load.length
  unfold layE
  cases back with
  | none => simp only [List.length_append, hiB_length, List.length_cons, List.length_nil]; omega
  | some d => have h2 := varB_length d; simp only [List.length_append, hiB_length, List.length_cons, List.length_nil]; omega
/-- How long all is, and how many of each there are. -/
theorem wrN_len (dl : List UInt8 → List UInt8 → List UInt8 × Int) (ps : List PIt) (chain : Int) (m : Nat) (hm : ∀ p ∈ ps, p.b.length ≤ m) (hdl : ∀ p ∈ ps, ∀ q ∈ ps, (dl p.b q.b).2 = 0) (hc : 0 ≤ chain) (k : Nat) (hk : k ≤ ps.length) :
    12 ≤ (wrN dl ps chain k).1.length ∧ (wrN dl ps chain k).1.length ≤ 12 + k * (25 + m) ∧ (wrN dl ps chain k).2.1.length = k ∧ (wrN dl ps chain k).2.2.length = k ∧ (∀ x ∈ (wrN dl ps chain k).2.1, 12 ≤ x.1 ∧ x.1 + 6 ≤ (wrN dl ps chain k).1.length ∧ 0 ≤ x.2 ∧ x.2 < 4294967296) ∧ (∀ d ∈ (wrN dl ps chain k).2.2, 0 ≤ d ∧ d ≤ chain) := by
  induction k with
  | zero => refine ⟨?_, ?_, rfl, rfl, by simp [wrN], by simp [wrN]⟩ <;> simp [wrN, headP, hiB_length]
  | succ k ih =>
    obtain ⟨i0, i1, i2, i3, i4, i5⟩ := ih (by omega)
    obtain ⟨p, hp⟩ : ∃ p, ps[k]? = some p := ⟨_, List.getElem?_eq_getElem (by omega)⟩
    have hpi := List.mem_of_getElem? hp
    have hpm := hm p hpi
    unfold wrN
    rw [hp]
    simp only
    have hT := tdL_prop dl ps (wrN dl ps chain k).2.2 p.k p.b chain (fun q hq => hdl q hq p hpi) k (by omega)
    generalize wrN dl ps chain k = s at i0 i1 i2 i3 i4 i5 hT
    unfold stepW
    generalize tdL dl ps s.2.2 p.k p.b chain k (-1, p.b, 0) = t at hT
    have hsum : ∀ l, 0 ≤ crcI l ∧ crcI l < 4294967296 := fun l => ⟨rI_lo _, rI_hi _⟩
    have hmul : (k + 1) * (25 + m) = k * (25 + m) + (25 + m) := by rw [Nat.add_mul, Nat.one_mul]
    have key : ∀ (back : Option Nat) (d : Int), 0 ≤ d ∧ d ≤ chain → (fun z : PkS => 12 ≤ z.1.length ∧ z.1.length ≤ 12 + (k + 1) * (25 + m) ∧ z.2.1.length = k + 1 ∧ z.2.2.length = k + 1 ∧ (∀ x ∈ z.2.1, 12 ≤ x.1 ∧ x.1 + 6 ≤ z.1.length ∧ 0 ≤ x.2 ∧ x.2 < 4294967296) ∧ (∀ d ∈ z.2.2, 0 ≤ d ∧ d ≤ chain)) (layE s.1 p.k t.2 back, s.2.1 ++ [(s.1.length, crcI t.2)], s.2.2 ++ [d]) := by
      intro back d hd
      have hl := layE_len s.1 p.k t.2 back
      refine ⟨by simp only; omega, by simp only; have := hT.2; omega, by simp [i2], by simp [i3], fun x hx => ?_, fun x hx => ?_⟩
      · rcases List.mem_append.1 hx with h | h
        · have := i4 x h
          simp only at *
          omega
        · rw [List.mem_singleton.1 h]
          have := hsum t.2
          simp only
          omega
      · rcases List.mem_append.1 hx with h | h
        · exact i5 x h
        · rw [List.mem_singleton.1 h]; exact hd
    split
    · exact key none 0 (by omega)
    · rename_i hb
      refine key (some _) _ ?_
      rcases hT.1 with h | ⟨c, pc, h1, h2, h3, h4, h5, h6⟩
      · omega
      · rw [h1, Int.toNat_natCast]
        have hcd : s.2.2.getD c 0 ∈ s.2.2 := by
          rw [List.getD_eq_getElem?_getD, List.getElem?_eq_getElem (by omega)]
          exact List.getElem_mem _
        have := i5 _ hcd
        omega
end Go.Proofs.YtkaeoflgnnlbeaaGreatDoor

/- What is proved: texts that stand one behind the other: Ptc Pte. Conditions: each theorem names its own. -/
import Derived.Test.YtkaeoflgnnlbeaaGreatDoorQPgc
import Derived.Test.YtkaeoflgnnlbeaaGreatDoorQPtd
import Derived.Test.YtkaeoflgnnlbeaaGreatDoorQPna
/- What is proved: the law's question whether objects are few and short. Conditions: the objects' cells are there. -/
namespace Go.Proofs.YtkaeoflgnnlbeaaGreatDoor
open Go.RowKit
set_option linter.unusedVariables false

/-- Objects that are few and short. -/
def Small (ps : List PIt) : Prop := ps.length ≤ 24 ∧ ∀ p ∈ ps, p.b.length ≤ 300
instance (ps : List PIt) : Decidable (Small ps) := by unfold Small; infer_instance
set_option maxHeartbeats 3200000 in
set_option maxRecDepth 100000 in
theorem small_any (IA : Option Addr) (c : Nat) (ps : List PIt) (w : World) (hi : Its w IA c ps) :
    Calls Tryz.prog 8 #[.slice IA ps.length c] w fun e w' => e = .returned (.bool (decide (Small ps))) ∧ w = w' := by
  have hcap := hi.cap
  have hlc := hi.le
  have HI := Lib.hid hi
  obtain ⟨r, hr⟩ : ∃ r, decide (Small ps) = r := ⟨_, rfl⟩
  rw [hr]
  have HR := Lib.hid hr
  obtain ⟨L, hL⟩ : ∃ L, ps.length = L := ⟨_, rfl⟩
  have HL := Lib.hid hL
  rw [hL] at hlc ⊢
  clear hi hr hL
  go_enter Tryz.func8, Tryz.ntmps8
  go_wp2_with fail
  go_loopw [3] (fun s3 wr => ∃ i : Nat, s3 = .int .i64 i ∧ i ≤ L ∧ wr = w ∧ i ≤ 24 ∧ Hid (∀ (j : Nat) (p : PIt), j < i → ps[j]? = some p → p.b.length ≤ 300)) (fun i _ => L - (intOf i).toNat)
  case atStart => exact ⟨0, rfl, by omega, rfl, by omega, Lib.hid (fun j p h => by omega)⟩
  case round =>
    obtain ⟨i, rfl, hil, rfl, hi24, HJ⟩ := hrel
    by_cases hlt : i < L
    · have hi2 : (i : Int) < L := by omega
      obtain ⟨p, hp⟩ : ∃ p, ps[i]? = some p := ⟨_, List.getElem?_eq_getElem (by have := HL.out; omega)⟩
      obtain ⟨ab, ao, hIA⟩ := HI.out.addr (k := i) (by have := HL.out; omega)
      subst hIA
      obtain ⟨y0, y1⟩ := HI.out.cells hp
      have HP := Lib.hid hp
      have hwi : IntKind.i64.wrap ((i : Int) + 1) = ((i + 1 : Nat) : Int) := by rw [IntKind.wrap_i64]; omega
      have hbig : (p.b.length : Int) ≤ 9223372036854775807 := by have := (HI.out.ok p (List.mem_of_getElem? hp)).cap; have := (HI.out.ok p (List.mem_of_getElem? hp)).le; omega
      clear hp
      by_cases h24 : 24 ≤ i
      · have h24' : (24 : Int) ≤ i := by omega
        have hrf : r = false := by
          rw [← HR.out]
          exact decide_eq_false (fun h => by have := h.1; have := HL.out; omega)
        subst hrf
        go_wp2_with fail
        go_ret
        first | exact ⟨rfl, rfl⟩ | exact ⟨rfl, trivial⟩ | rfl
      · have h24' : ¬ (24 : Int) ≤ i := by omega
        obtain ⟨B, hB⟩ : ∃ B, p.b.length = B := ⟨_, rfl⟩
        have HB := Lib.hid hB
        rw [hB] at y1 hbig
        clear hB
        by_cases h3 : 300 < B
        · have h3' : (300 : Int) < B := by omega
          have hrf : r = false := by
            rw [← HR.out]
            exact decide_eq_false (fun h => by have := h.2 p (List.mem_of_getElem? HP.out); have := HB.out; omega)
          subst hrf
          go_wp2_with fail
          go_ret
          first | exact ⟨rfl, rfl⟩ | exact ⟨rfl, trivial⟩ | rfl
        · have h3' : ¬ (300 : Int) < B := by omega
          go_wp2_with fail
          go_roundw
          case rel => exact ⟨i + 1, by go_num, by omega, by first | rfl | trivial, by omega, Lib.hid (fun j q hj hq => by
            by_cases e : j = i
            · subst e
              have : some p = some q := HP.out.symm.trans hq
              injection this with this
              rw [← this, HB.out]; omega
            · exact HJ.out j q (by omega) hq)⟩
          case measure => simp [intOf]; omega
    · obtain rfl : i = L := by omega
      have hrt : r = true := by
        rw [← HR.out]
        refine decide_eq_true ⟨by have := HL.out; omega, fun p hp => ?_⟩
        obtain ⟨j, hj⟩ := List.mem_iff_getElem?.1 hp
        exact HJ.out j p (by have := (List.getElem?_eq_some_iff.1 hj).1; have := HL.out; omega) hj
      subst hrt
      go_wp2_with fail
      go_ret
      first | exact ⟨rfl, rfl⟩ | exact ⟨rfl, trivial⟩ | rfl
end Go.Proofs.YtkaeoflgnnlbeaaGreatDoor
/- What is proved: where a load's bytes are turned, its object is told no more; the law's function answers true; over what an object's name tells. Conditions: the tables lie as their texts lay them; the objects' cells are there. -/
namespace Go.Proofs.YtkaeoflgnnlbeaaGreatDoor
open Go.RowKit
set_option linter.unusedVariables false

theorem pl_cellK {w : World} {base L : Nat} {vp : Value} {pls : List PPl} (hq : ∀ q ∈ pls, q.Ok) (o : w.ownsRow base 56 34 vp L (flatL pls)) (hL : pls.length = L) (h0 : 0 < L) : ∃ g c, vp = .slice (some ⟨g, 0, none⟩) L c ∧ ∀ (k : Nat) (q : PPl), pls[k]? = some q → w.cell? ⟨g, k * 34 + 32, none⟩ = some (.int .i64 q.at') := by
  rcases own_shape o with ⟨_, h, _⟩ | ⟨g, cap, hv, _⟩
  · omega
  · subst hv
    refine ⟨g, cap, rfl, fun k q hk => ?_⟩
    have h := World.ownsRow.cells o (g := g) rfl (k * 34 + 32) (.int .i64 q.at') (by rw [flatL_get pls hq k 32 q hk (by omega)]; exact pl_at q (hq q (List.mem_of_getElem? hk)))
    rwa [add_off, Nat.zero_add] at h
theorem own_noneT (w : World) : (w.alloc (.cells #[] 5)).ownsRow w.heap.size 5 1 (.slice (some ⟨w.heap.size, 0, none⟩) 0 0) 0 [] :=
  World.ownsRow_made w #[] 0 (Nat.le_refl _) (Nat.zero_le _) rfl
theorem own_copyT {w1 wa : World} {vO : Value} {l : List UInt8} {L : Nat} (hL : l.length = L) (h0 : 0 < L) (o1 : wa.ownsRow w1.heap.size 5 1 vO (0 + L) ([] ++ bytesV l)) (g1 : (w1.alloc (.cells #[] 5)).grownBy wa (Value.slice (some ⟨w1.heap.size, 0, none⟩) 0 0).ownBlock) : ∃ g c, vO = .slice (some ⟨g, 0, none⟩) L c ∧ L ≤ c ∧ c ≤ 9223372036854775807 ∧ OwnB w1 wa (.slice (some ⟨g, 0, none⟩) L c) l := by
  have f : Fr (fun _ => False) w1 wa := fr_append (own_noneT w1) ((Fr.refl (fun _ => False) w1).alloc _) g1
  rw [Nat.zero_add, List.nil_append] at o1
  rcases own_shape o1 with ⟨_, h, _⟩ | ⟨g, cap, hv, h1, h2, _⟩
  · omega
  · subst hv
    exact ⟨g, cap, rfl, h1, by unfold maxLen at h2; omega, by rw [hL]; exact o1, f⟩
theorem xor_u8T (a b : UInt8) : bits .xor .u8 (a.toNat : Int) (b.toNat : Int) = ((a ^^^ b).toNat : Int) := by
  rw [u8_xor_nat _ _ a.toNat_lt b.toNat_lt, UInt8.toNat_xor]
theorem tB_nat (t j : Nat) : (((tB t j).toNat : Nat) : Int) = (t : Int) / 2 ^ (8 * j) % 256 := by
  unfold tB
  rw [UInt8.toNat_ofNat_of_lt' (by show _ < 256; omega), Int.natCast_emod, Int.natCast_ediv, Int.natCast_pow]
  rfl
/-- What the pack of such objects is. -/
structure Turned (nm : Int → List UInt8 → List UInt8 × Int) (ps : List PIt) (bs : List UInt8) (pls : List PPl) : Prop where
  len : 44 ≤ bs.length ∧ bs.length ≤ 2000000
  pn : pls.length = ps.length
  read : ∀ (k : Nat) (p : PIt), ps[k]? = some p → ∃ a E : Nat, (pls[k]?).map PPl.at' = some a ∧ (∀ q, pls[k + 1]? = some q → q.at' = E) ∧ (ps.length ≤ k + 1 → E = bs.length - 32) ∧ p.b.length ≤ E ∧ E + 32 ≤ bs.length ∧ a ≤ E ∧
    ∀ t, 4 ≤ p.b.length → t ≠ 0 → t < 4294967296 → opnE (xorP t bs (E - p.b.length) 4) a 0 = zE 13
theorem turned_of (nm : Int → List UInt8 → List UInt8 × Int) (ps : List PIt) (hp : Small ps) (hnk : ∀ p ∈ ps, (nm p.k p.b).2 = 0 → 1 ≤ p.k ∧ p.k ≤ 4) (he : (namesR nm ps).2 = 0) :
    Turned nm ps ((wrN dl0 ps 0 ps.length).1 ++ sumL (wrN dl0 ps 0 ps.length).1) (plsOf (namesR nm ps).1 (wrN dl0 ps 0 ps.length).2.1) := by
  obtain ⟨hil, hnm⟩ := namesR_ok nm ps he
  have hdl : ∀ p ∈ ps, ∀ q ∈ ps, (dl0 p.b q.b).2 = 0 := fun _ _ _ _ => rfl
  obtain ⟨i0, i1, i2, _, _, _⟩ := wrN_len dl0 ps 0 300 hp.2 hdl (by omega) ps.length (Nat.le_refl _)
  have h24 := hp.1
  have hmul : ps.length * (25 + 300) ≤ 24 * (25 + 300) := Nat.mul_le_mul_right _ h24
  have hsl := sumL_len (wrN dl0 ps 0 ps.length).1
  refine ⟨by rw [List.length_append, hsl]; omega, by rw [plsOf_len _ _ (by omega)]; exact i2, fun k p hk => ?_⟩
  have hkl := (List.getElem?_eq_some_iff.1 hk).1
  obtain ⟨r, e1, e2, e3⟩ := wrN_at dl0 ps hdl k p hk
  obtain ⟨j0, _, _, _, _, _⟩ := wrN_len dl0 ps 0 300 hp.2 hdl (by omega) k (by omega)
  have hat : ∀ (j : Nat) (s : Nat × Int), (wrN dl0 ps 0 ps.length).2.1[j]? = some s → j < ps.length → ((plsOf (namesR nm ps).1 (wrN dl0 ps 0 ps.length).2.1)[j]?).map PPl.at' = some s.1 := fun j s hs hj => by
    unfold plsOf
    rw [List.getElem?_zipWith, hs, List.getElem?_eq_getElem (show j < (namesR nm ps).1.length by omega)]
    rfl
  have hXE : (wrN dl0 ps 0 ps.length).1.length = (wrN dl0 ps 0 k).1.length + (hdE p.k p.b).length + p.b.length + r.length := by
    rw [e1]; simp only [List.length_append]; omega
  refine ⟨(wrN dl0 ps 0 k).1.length, (wrN dl0 ps 0 (k + 1)).1.length, hat k _ e3 hkl, fun q hq => ?_, fun hle => ?_, by omega, by rw [List.length_append, hsl]; omega, by omega, fun t h4 h0 ht => ?_⟩
  · have hk1 : k + 1 < ps.length := by
      have := (List.getElem?_eq_some_iff.1 hq).1
      rw [plsOf_len _ _ (by omega), i2] at this
      exact this
    obtain ⟨p', hp'⟩ : ∃ p', ps[k + 1]? = some p' := ⟨_, List.getElem?_eq_getElem hk1⟩
    obtain ⟨_, _, _, e3'⟩ := wrN_at dl0 ps hdl (k + 1) p' hp'
    have := hat (k + 1) _ e3' hk1
    rw [hq] at this
    simpa using this
  · have : ps.length = k + 1 := by omega
    rw [List.length_append, hsl, this]; omega
  · have hb := hp.2 p (List.mem_of_getElem? hk)
    have hkk := hnk p (List.mem_of_getElem? hk) (hnm p (List.mem_of_getElem? hk))
    have := turned_opn (wrN dl0 ps 0 k).1 p.b r (sumL (wrN dl0 ps 0 ps.length).1) p.k t hkk ⟨h4, by omega⟩ j0 h0 ht hsl 0
    rw [show (wrN dl0 ps 0 (k + 1)).1.length - p.b.length = (wrN dl0 ps 0 k).1.length + (hdE p.k p.b).length by omega]
    rw [show (wrN dl0 ps 0 ps.length).1 ++ sumL (wrN dl0 ps 0 ps.length).1 = (wrN dl0 ps 0 k).1 ++ (hdE p.k p.b ++ (p.b ++ (r ++ sumL (wrN dl0 ps 0 ps.length).1))) from by rw [e1]; simp [List.append_assoc]]
    exact this

def readR0 (l : List UInt8) : (Int × Int × List DOp) × Int := ((0, 0, []), 0)
def appR0 (l : List UInt8) (b t : Int) (os : List DOp) : List UInt8 × Int := ([], 0)
set_option maxHeartbeats 6400000 in
set_option maxRecDepth 100000 in
theorem turned_walk (nm : Int → List UInt8 → List UInt8 × Int) (hnl : ∀ k b, (nm k b).1.length = 32) (IA : Option Addr) (c : Nat) (ps : List PIt) (a t : Nat) (ha : a < 256) (ht : t < 4294967296) (w : World) (hi : Its w IA c ps)
    (hnm : ∀ p ∈ ps, NmSays nm w p.k p.b) (hnk : ∀ p ∈ ps, (nm p.k p.b).2 = 0 → 1 ≤ p.k ∧ p.k ≤ 4) (hTab : Tab10 w) (hK : Tab w) :
    Calls Tryz.prog 7 #[.slice IA ps.length c, .int .u8 a, .int .u32 t] w fun e w' => e = .returned (.bool true) ∧ Fr (fun _ => False) w w' := by
  have HWk := Lib.hid (fun w' (f : Fr (fun _ => False) w w') => works10_any w' (hTab.fr f) (hK.fr f (fun e => e)))
  have HSm := Lib.hid (small_any IA c ps w hi)
  by_cases hsm : Small ps
  · rw [decide_eq_true hsm] at HSm
    by_cases h0 : ps.length = 0
    · rw [h0] at HSm ⊢
      clear hsm hi hnm hnk hTab hK
      go_enter Tryz.func7, Tryz.ntmps7
      go_wp2_with (first
        | (go_at_call 8; refine HSm.out.mono ?_; rintro e w1 ⟨rfl, rfl⟩)
        | (go_at_call 9; refine (HWk.out w (Fr.refl _ _)).mono ?_; rintro e w1 ⟨rfl, f1⟩; have HF1 := Lib.hid f1; clear f1))
      go_ret
      exact ⟨rfl, HF1.out⟩
    · have h24 := hsm.1
      have HWr := Lib.hid (PWrite_any nm sumL dl0 hnl sumL_len IA c ps 0 (by decide) 300 hsm.2 (by decide) (by omega) (by have := Nat.mul_le_mul_right (25 + 300) h24; omega) w hi hnm (fun p hp h => by have := hnk p hp h; omega) (so_says w hK) (fun _ _ _ _ => rfl)
        (fun k p hp j hj => by
          obtain ⟨_, _, _, _, _, hds⟩ := wrN_len dl0 ps 0 300 hsm.2 (fun _ _ _ _ => rfl) (by omega) k (by have := (List.getElem?_eq_some_iff.1 hp).1; omega)
          rw [candL_zero ps _ p.k k 4 (fun d hd => (hds d hd).1)] at hj
          simp at hj))
      unfold WrPost wrR at HWr
      rw [if_neg (by decide)] at HWr
      by_cases hE : (namesR nm ps).2 = 0
      · have hT := turned_of nm ps hsm hnk hE
        rw [if_neg (by simp [hE])] at HWr
        obtain ⟨bs, hbs⟩ : ∃ bs, (wrN dl0 ps 0 ps.length).1 ++ sumL (wrN dl0 ps 0 ps.length).1 = bs := ⟨_, rfl⟩
        obtain ⟨pls, hpls⟩ : ∃ pls, plsOf (namesR nm ps).1 (wrN dl0 ps 0 ps.length).2.1 = pls := ⟨_, rfl⟩
        rw [hbs, hpls] at HWr hT
        simp only at HWr
        rw [hT.pn] at HWr
        have hpn := hT.pn
        obtain ⟨K, hKd⟩ : ∃ K, a % ps.length = K := ⟨_, rfl⟩
        have hKL : K < ps.length := by rw [← hKd]; exact Nat.mod_lt _ (by omega)
        have hrem : (a : Int).tmod ps.length = (K : Int) := by rw [Int.tmod_eq_emod_of_nonneg (by omega), ← hKd]; rfl
        obtain ⟨p, hp⟩ : ∃ p, ps[K]? = some p := ⟨_, List.getElem?_eq_getElem hKL⟩
        obtain ⟨aK, E, hat, hnx, hls, hnE, hE32, haE, hop⟩ := hT.read K p hp
        obtain ⟨ab, ao, hIA⟩ := hi.addr hKL
        subst hIA
        have HIc := Lib.hid (fun w' (f : Fr (fun _ => False) w w') => ((hi.fr f).cells hp).2)
        have hb4 := hsm.2 p (List.mem_of_getElem? hp)
        have hbl := hT.len
        have HRd : Hid (4 ≤ p.b.length → t ≠ 0 → ∀ (A : Option Addr) (cc : Nat) (w' : World), bs.length ≤ cc → cc ≤ 9223372036854775807 → Lies w' A (bytesV (xorP t bs (E - p.b.length) 4)) → Calls Tryz.prog 15 #[.slice A bs.length cc, .int .i64 aK] w' (RdPost w' ((0, []), 13))) := Lib.hid (fun h4 h0 A cc w' h1 h2 hl => by
          have e := hop t h4 h0 ht
          have hx := xorP_len t bs (E - p.b.length) 4
          have h := PRead_any readR0 appR0 A cc _ (by rw [hx]; exact h1) h2 (by omega) aK (by omega) (bad_read readR0 appR0 _ aK 13 (by decide) e).2 w' hl
          rw [hx, (bad_read readR0 appR0 _ aK 13 (by decide) e).1] at h
          exact h)
        unfold RdPost at HRd
        have HPl : Hid (∀ (w' : World) (base : Nat) (vp : Value), w'.ownsRow base 56 34 vp ps.length (flatL pls) → (∀ q ∈ pls, q.Ok) → ∃ g cg, vp = .slice (some ⟨g, 0, none⟩) ps.length cg ∧ w'.cell? ⟨g, K * 34 + 32, none⟩ = some (.int .i64 aK) ∧ (K + 1 < ps.length → w'.cell? ⟨g, (K + 1) * 34 + 32, none⟩ = some (.int .i64 E))) := Lib.hid (fun w' base vp o hq => by
          obtain ⟨g, cg, hv, hc⟩ := pl_cellK hq o hpn (by omega)
          refine ⟨g, cg, hv, ?_, fun hk1 => ?_⟩
          · cases hq1 : pls[K]? with
            | none => rw [hq1] at hat; simp at hat
            | some q =>
              rw [hq1] at hat
              have := hc K q hq1
              simp at hat
              rw [this, hat]
          · obtain ⟨q, hq2⟩ : ∃ q, pls[K + 1]? = some q := ⟨_, List.getElem?_eq_getElem (by omega)⟩
            rw [hc (K + 1) q hq2, hnx q hq2])
        have HXl := Lib.hid (fun m => xorP_len t bs (E - p.b.length) m)
        obtain ⟨n, hn⟩ : ∃ n, p.b.length = n := ⟨_, rfl⟩
        obtain ⟨L, hL⟩ : ∃ L, ps.length = L := ⟨_, rfl⟩
        obtain ⟨BL, hBL⟩ : ∃ BL, bs.length = BL := ⟨_, rfl⟩
        have HBL := Lib.hid hBL
        rw [hn] at HIc hnE hb4 HRd HXl
        rw [hL] at h0 h24 hKL hrem hls HSm HPl HWr ⊢
        rw [hBL] at hE32 hls hbl HRd HXl HWr
        obtain ⟨P, hP⟩ : ∃ P, E - n = P := ⟨_, rfl⟩
        rw [hP] at HRd HXl
        obtain ⟨hb0, hb1⟩ := hbl
        have hlsI : ¬ ((K : Int) + 1 < L) → (E : Int) = (BL : Int) - 32 := fun h => by have := hls (by omega); omega
        have hsub : IntKind.i64.wrap ((E : Int) - n) = (P : Int) := by rw [IntKind.wrap_i64]; omega
        have hw1 : IntKind.i64.wrap ((K : Int) + 1) = ((K + 1 : Nat) : Int) := by rw [IntKind.wrap_i64]; omega
        have hw2 : IntKind.i64.wrap ((BL : Int) - 32) = (BL : Int) - 32 := by rw [IntKind.wrap_i64]; omega
        have h44 : ¬ (BL : Int) < 44 := by omega
        have h0' : ¬ (L : Int) = 0 := by omega
        have hEn : ¬ (E : Int) < n := by omega
        clear hsm hi hnm hnk hTab hK hop hat hnx hT hE hbs hpls hn hL hBL hKd hp hpn hls
        by_cases hk1 : K + 1 < L
        · have hk2 : ((K + 1 : Nat) : Int) < L := by omega
          go_enter Tryz.func7, Tryz.ntmps7
          (
            go_upto_region 9 with (first
              | (go_at_call 8; refine HSm.out.mono ?_; rintro e w1 ⟨rfl, rfl⟩)
              | (go_at_call 10; refine HWr.out.mono ?_; rintro e w1 ⟨vb, vp, rfl, ob, op, hq, bb⟩; obtain ⟨Ab, cb, hvb, hcb, hcm⟩ := own_slice ob; subst hvb; obtain ⟨g, cg, hvp, x0, hx1⟩ := HPl.out w1 _ vp op hq; subst hvp
                 have HL1 := Lib.hid (Lies.of_own ob); have HC1 := Lib.hid (And.intro hcb hcm); have HF1 := Lib.hid (Fr.of_below (S := fun _ => False) bb); have HX1 := Lib.hid hx1; have y1 := HIc.out w1 HF1.out; clear ob op hq bb hcb hcm hx1)))
          have x1 := HX1.out hk1
          go_upto_region 13 with fail
          (
            by_cases h4 : n < 4
            · have h4' : (n : Int) < 4 := by omega
              go_wp2_with (go_at_call 9; refine (HWk.out w1 HF1.out).mono ?_; rintro e w2 ⟨rfl, f2⟩; have HF2 := Lib.hid (HF1.out.trans f2 (fun _ _ e => e)); clear f2)
              go_ret
              exact ⟨rfl, HF2.out⟩
            · have h4' : ¬ (n : Int) < 4 := by omega
              by_cases ht0 : t = 0
              · have ht0' : (t : Int) = 0 := by omega
                go_wp2_with (go_at_call 9; refine (HWk.out w1 HF1.out).mono ?_; rintro e w2 ⟨rfl, f2⟩; have HF2 := Lib.hid (HF1.out.trans f2 (fun _ _ e => e)); clear f2)
                go_ret
                exact ⟨rfl, HF2.out⟩
              · have ht0' : ¬ (t : Int) = 0 := by omega
                have HR4 := Lib.hid (HRd.out (by omega) ht0)
                have hE1 : ¬ E < n := by omega
                have hE2 : decide ((E : Int) < (n : Int)) = false := decide_eq_false (by omega)
                have hE3 : decide (E < n) = false := decide_eq_false hE1
                have HX0 := Lib.hid x0
                clear x0 y1
                obtain ⟨i0, gi, gz0, gz1, gz2⟩ := info_parts info_u8
                go_upto_region 16 with (first
                 | (at_builtin; refine wpList_append_row _ rfl (.tmp 83) (.tmp 84) 25 25 rfl w1.heap.size 5 i0 (.int .u8 0) 1 1 Tryz.underlying25 gi gz0 gz1 gz2 rfl (.slice (some ⟨w1.heap.size, 0, none⟩) 0 0) 0 [] rfl (own_noneT w1) (.slice Ab BL cb) BL (bytesV bs) rfl (Lies.srcB (HL1.out.fr ((Fr.refl (fun _ => False) w1).alloc _) (fun _ _ e => e)) HBL.out cb) (by unfold maxLen; omega) (by omega) (by simp) ?_
                    intro vO wa o1 g1 at1
                    obtain ⟨gO, cO, hvO, hcO, hcm, hO⟩ := own_copyT HBL.out (by omega) o1 g1
                    subst hvO
                    have HO0 := Lib.hid hO
                    clear o1 g1 at1 hO))
                clear hE1 hE2 hE3
                go_wp2_with fail
                go_loopw [14] (fun s14 wr => ∃ j : Nat, j ≤ 4 ∧ s14 = .int .i64 j ∧ Hid (OwnB w1 wr (.slice (some ⟨gO, 0, none⟩) BL cO) (xorP t bs P j))) (fun i _ => 4 - (intOf i).toNat)
                case atStart => exact ⟨0, by omega, rfl, HO0⟩
                case round =>
                  obtain ⟨j, hj, rfl, HO⟩ := hrel
                  by_cases hlt : j < 4
                  · have hlt2 : (j : Int) < 4 := by omega
                    obtain ⟨q, hq⟩ : ∃ q, xorP t bs P j = q := ⟨_, rfl⟩
                    have hql := HXl.out j
                    rw [hq] at HO hql
                    obtain ⟨cc, ff⟩ := HO.out.at (P + j) (by omega)
                    obtain ⟨b, hb⟩ : ∃ b, q.getD (P + j) 0 = b := ⟨_, rfl⟩
                    rw [hb] at cc
                    have hw5 : IntKind.i64.wrap ((P : Int) + j) = ((P + j : Nat) : Int) := by rw [IntKind.wrap_i64]; omega
                    have hw6 : IntKind.i64.wrap (8 * (j : Int)) = ((8 * j : Nat) : Int) := by rw [IntKind.wrap_i64]; omega
                    have hw7 : IntKind.i64.wrap ((j : Int) + 1) = ((j + 1 : Nat) : Int) := by rw [IntKind.wrap_i64]; omega
                    have hw8 : IntKind.u64.wrap ((8 * j : Nat) : Int) = ((8 * j : Nat) : Int) := by rw [IntKind.wrap_u64]; omega
                    have hxb := xor_u8T b (tB t j)
                    have HB := Lib.hid (show xorP t bs P (j + 1) = q.set (P + j) (b ^^^ tB t j) from by rw [xorP, hq, hb])
                    clear hq hb
                    have HXb := Lib.hid (show bits .xor .u8 (b.toNat : Int) ((t : Int) / 2 ^ (8 * j) % 256) = ((b ^^^ tB t j).toNat : Int) from by rw [← tB_nat t j]; exact hxb)
                    clear hxb
                    go_wp2_with fail
                    go_roundw
                    case rel => exact ⟨j + 1, by omega, by go_num, Lib.hid (by rw [HB.out]; exact HO.out.put (P + j) _ _ HXb.out)⟩
                    case measure => simp [intOf]; omega
                  · obtain rfl : j = 4 := by omega
                    have x0 := HO.out.2.cell HX0.out (fun e => e)
                    have HLo := Lib.hid (show Lies wr (some ⟨gO, 0, none⟩) (bytesV (xorP t bs P 4)) from Lies.of_own (by have h := HO.out.1; rwa [HXl.out 4] at h))
                    have HFr := Lib.hid (HF1.out.trans HO.out.2 (fun _ _ e => e))
                    go_wp2_with (first
                      | (go_at_call 15; refine (HR4.out _ cO wr hcO hcm HLo.out).mono ?_; rintro e w3 ⟨v3, rfl, o3, b3⟩; obtain ⟨A3, c3, hv3, -, -⟩ := own_slice o3; subst hv3; have HF3 := Lib.hid (HFr.out.then_below b3); clear o3 b3)
                      | (go_at_call 9; refine (HWk.out w3 HF3.out).mono ?_; rintro e w4 ⟨rfl, f4⟩; have HF4 := Lib.hid (HF3.out.trans f4 (fun _ _ e => e)); clear f4))
                    go_ret
                    exact ⟨rfl, HF4.out⟩)
        · have hk2 : ¬ ((K + 1 : Nat) : Int) < L := by omega
          have hEI := hlsI (by omega)
          go_enter Tryz.func7, Tryz.ntmps7
          (
            go_upto_region 9 with (first
              | (go_at_call 8; refine HSm.out.mono ?_; rintro e w1 ⟨rfl, rfl⟩)
              | (go_at_call 10; refine HWr.out.mono ?_; rintro e w1 ⟨vb, vp, rfl, ob, op, hq, bb⟩; obtain ⟨Ab, cb, hvb, hcb, hcm⟩ := own_slice ob; subst hvb; obtain ⟨g, cg, hvp, x0, hx1⟩ := HPl.out w1 _ vp op hq; subst hvp
                 have HL1 := Lib.hid (Lies.of_own ob); have HC1 := Lib.hid (And.intro hcb hcm); have HF1 := Lib.hid (Fr.of_below (S := fun _ => False) bb); have HX1 := Lib.hid hx1; have y1 := HIc.out w1 HF1.out; clear ob op hq bb hcb hcm hx1)))
          go_upto_region 13 with fail
          rw [← hEI]
          clear hEI hlsI
          (
            by_cases h4 : n < 4
            · have h4' : (n : Int) < 4 := by omega
              go_wp2_with (go_at_call 9; refine (HWk.out w1 HF1.out).mono ?_; rintro e w2 ⟨rfl, f2⟩; have HF2 := Lib.hid (HF1.out.trans f2 (fun _ _ e => e)); clear f2)
              go_ret
              exact ⟨rfl, HF2.out⟩
            · have h4' : ¬ (n : Int) < 4 := by omega
              by_cases ht0 : t = 0
              · have ht0' : (t : Int) = 0 := by omega
                go_wp2_with (go_at_call 9; refine (HWk.out w1 HF1.out).mono ?_; rintro e w2 ⟨rfl, f2⟩; have HF2 := Lib.hid (HF1.out.trans f2 (fun _ _ e => e)); clear f2)
                go_ret
                exact ⟨rfl, HF2.out⟩
              · have ht0' : ¬ (t : Int) = 0 := by omega
                have HR4 := Lib.hid (HRd.out (by omega) ht0)
                have hE1 : ¬ E < n := by omega
                have hE2 : decide ((E : Int) < (n : Int)) = false := decide_eq_false (by omega)
                have hE3 : decide (E < n) = false := decide_eq_false hE1
                have HX0 := Lib.hid x0
                clear x0 y1
                obtain ⟨i0, gi, gz0, gz1, gz2⟩ := info_parts info_u8
                go_upto_region 16 with (first
                 | (at_builtin; refine wpList_append_row _ rfl (.tmp 83) (.tmp 84) 25 25 rfl w1.heap.size 5 i0 (.int .u8 0) 1 1 Tryz.underlying25 gi gz0 gz1 gz2 rfl (.slice (some ⟨w1.heap.size, 0, none⟩) 0 0) 0 [] rfl (own_noneT w1) (.slice Ab BL cb) BL (bytesV bs) rfl (Lies.srcB (HL1.out.fr ((Fr.refl (fun _ => False) w1).alloc _) (fun _ _ e => e)) HBL.out cb) (by unfold maxLen; omega) (by omega) (by simp) ?_
                    intro vO wa o1 g1 at1
                    obtain ⟨gO, cO, hvO, hcO, hcm, hO⟩ := own_copyT HBL.out (by omega) o1 g1
                    subst hvO
                    have HO0 := Lib.hid hO
                    clear o1 g1 at1 hO))
                clear hE1 hE2 hE3
                go_wp2_with fail
                go_loopw [14] (fun s14 wr => ∃ j : Nat, j ≤ 4 ∧ s14 = .int .i64 j ∧ Hid (OwnB w1 wr (.slice (some ⟨gO, 0, none⟩) BL cO) (xorP t bs P j))) (fun i _ => 4 - (intOf i).toNat)
                case atStart => exact ⟨0, by omega, rfl, HO0⟩
                case round =>
                  obtain ⟨j, hj, rfl, HO⟩ := hrel
                  by_cases hlt : j < 4
                  · have hlt2 : (j : Int) < 4 := by omega
                    obtain ⟨q, hq⟩ : ∃ q, xorP t bs P j = q := ⟨_, rfl⟩
                    have hql := HXl.out j
                    rw [hq] at HO hql
                    obtain ⟨cc, ff⟩ := HO.out.at (P + j) (by omega)
                    obtain ⟨b, hb⟩ : ∃ b, q.getD (P + j) 0 = b := ⟨_, rfl⟩
                    rw [hb] at cc
                    have hw5 : IntKind.i64.wrap ((P : Int) + j) = ((P + j : Nat) : Int) := by rw [IntKind.wrap_i64]; omega
                    have hw6 : IntKind.i64.wrap (8 * (j : Int)) = ((8 * j : Nat) : Int) := by rw [IntKind.wrap_i64]; omega
                    have hw7 : IntKind.i64.wrap ((j : Int) + 1) = ((j + 1 : Nat) : Int) := by rw [IntKind.wrap_i64]; omega
                    have hw8 : IntKind.u64.wrap ((8 * j : Nat) : Int) = ((8 * j : Nat) : Int) := by rw [IntKind.wrap_u64]; omega
                    have hxb := xor_u8T b (tB t j)
                    have HB := Lib.hid (show xorP t bs P (j + 1) = q.set (P + j) (b ^^^ tB t j) from by rw [xorP, hq, hb])
                    clear hq hb
                    have HXb := Lib.hid (show bits .xor .u8 (b.toNat : Int) ((t : Int) / 2 ^ (8 * j) % 256) = ((b ^^^ tB t j).toNat : Int) from by rw [← tB_nat t j]; exact hxb)
                    clear hxb
                    go_wp2_with fail
                    go_roundw
                    case rel => exact ⟨j + 1, by omega, by go_num, Lib.hid (by rw [HB.out]; exact HO.out.put (P + j) _ _ HXb.out)⟩
                    case measure => simp [intOf]; omega
                  · obtain rfl : j = 4 := by omega
                    have x0 := HO.out.2.cell HX0.out (fun e => e)
                    have HLo := Lib.hid (show Lies wr (some ⟨gO, 0, none⟩) (bytesV (xorP t bs P 4)) from Lies.of_own (by have h := HO.out.1; rwa [HXl.out 4] at h))
                    have HFr := Lib.hid (HF1.out.trans HO.out.2 (fun _ _ e => e))
                    go_wp2_with (first
                      | (go_at_call 15; refine (HR4.out _ cO wr hcO hcm HLo.out).mono ?_; rintro e w3 ⟨v3, rfl, o3, b3⟩; obtain ⟨A3, c3, hv3, -, -⟩ := own_slice o3; subst hv3; have HF3 := Lib.hid (HFr.out.then_below b3); clear o3 b3)
                      | (go_at_call 9; refine (HWk.out w3 HF3.out).mono ?_; rintro e w4 ⟨rfl, f4⟩; have HF4 := Lib.hid (HF3.out.trans f4 (fun _ _ e => e)); clear f4))
                    go_ret
                    exact ⟨rfl, HF4.out⟩)
      · rw [if_pos hE] at HWr
        obtain ⟨E, hEE⟩ : ∃ E, (namesR nm ps).2 = E := ⟨_, rfl⟩
        rw [hEE] at hE HWr
        obtain ⟨L, hL⟩ : ∃ L, ps.length = L := ⟨_, rfl⟩
        rw [hL] at h0 HSm HWr ⊢
        have hE' : (E != 0) = true := by simpa using hE
        have h0' : ¬ (L : Int) = 0 := by omega
        clear hsm hi hnm hnk hTab hK hEE hL
        go_enter Tryz.func7, Tryz.ntmps7
        go_wp2_with (first
          | (go_at_call 8; refine HSm.out.mono ?_; rintro e w1 ⟨rfl, rfl⟩)
          | (go_at_call 10; refine HWr.out.mono ?_; rintro e w1 ⟨vb, vp, rfl, ob, op, hq, bb⟩; have HF1 := Lib.hid (Fr.of_below (S := fun _ => False) bb); clear ob op hq bb)
          | (go_at_call 9; refine (HWk.out w1 HF1.out).mono ?_; rintro e w2 ⟨rfl, f2⟩; have HF2 := Lib.hid (HF1.out.trans f2 (fun _ _ e => e)); clear f2))
        go_ret
        exact ⟨rfl, HF2.out⟩
  · rw [decide_eq_false hsm] at HSm
    obtain ⟨L, hL⟩ : ∃ L, ps.length = L := ⟨_, rfl⟩
    rw [hL] at HSm ⊢
    clear hsm hi hnm hnk hTab hK hL
    go_enter Tryz.func7, Tryz.ntmps7
    go_wp2_with (first
      | (go_at_call 8; refine HSm.out.mono ?_; rintro e w1 ⟨rfl, rfl⟩)
      | (go_at_call 9; refine (HWk.out w (Fr.refl _ _)).mono ?_; rintro e w1 ⟨rfl, f1⟩; have HF1 := Lib.hid f1; clear f1))
    go_ret
    exact ⟨rfl, HF1.out⟩
end Go.Proofs.YtkaeoflgnnlbeaaGreatDoor

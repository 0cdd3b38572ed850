/- What is proved: texts that stand one behind the other: Prm Prr. Conditions: each theorem names its own. -/
import Derived.Test.YtkaeoflgnnlbeaaGreatDoorQPrk
import Derived.Test.YtkaeoflgnnlbeaaGreatDoorDea
/- What is proved: the object that is told by entries, each of which lies on the one before, by the program; over what reading a script and applying it tells. Conditions: the entries are the call's own; the two calls on scripts tell what is said of them. -/
namespace Go.Proofs.YtkaeoflgnnlbeaaGreatDoor
open Go.RowKit
set_option linter.unusedVariables false

/-- What made tells. -/
def MdPost (base : Nat) (w : World) (R : (Int × List UInt8) × Int) (e : Ending) (w' : World) : Prop :=
  ∃ v, e = .returned (.tuple #[.int .i64 R.1.1, v, .int .i64 R.2]) ∧ w'.ownsRow base 5 1 v R.1.2.length (bytesV R.1.2) ∧ Below w.heap.size w w'
/-- What the two calls on scripts tell, of a load, of any base. -/
def RdSays (rd : List UInt8 → (Int × Int × List DOp) × Int) (l : List UInt8) : Prop :=
  ∀ (A : Option Addr) (c : Nat) (w : World), l.length ≤ c → Lies w A (bytesV l) → Calls Tryz.prog 58 #[.slice A l.length c] w fun e w' => ∃ A' c' ps, e = .returned (.tuple #[.agg #[.int .i64 (rd l).1.1, .int .i64 (rd l).1.2.1, .slice A' ps.length c'], .int .i64 (rd l).2]) ∧ Scr w' A' c' ps ∧ opsO ps = (rd l).1.2.2 ∧ Below w.heap.size w w'
def ApSays (ap : List UInt8 → Int → Int → List DOp → List UInt8 × Int) : Prop :=
  ∀ (A : Option Addr) (c : Nat) (xs : List UInt8) (b t : Int) (S : Option Addr) (d : Nat) (ps : List POp) (w : World), xs.length ≤ c → c ≤ 9223372036854775807 → Lies w A (bytesV xs) → Scr w S d ps → Calls Tryz.prog 59 #[.slice A xs.length c, .agg #[.int .i64 b, .int .i64 t, .slice S ps.length d]] w fun e w' => ∃ v, e = .returned (.tuple #[v, .int .i64 (ap xs b t (opsO ps)).2]) ∧ w'.ownsRow w.heap.size 5 1 v (ap xs b t (opsO ps)).1.length (bytesV (ap xs b t (opsO ps)).1) ∧ Below w.heap.size w w'
theorem slice_tl6 (g n c : Nat) (h1 : 1 ≤ n) (hc : n ≤ c) : ∃ q, (2 ≤ n → q = 6) ∧ ∀ w, (Instr.slice 84 (.slice (some ⟨g, 0, none⟩) n c) (some (.int .i64 1)) none none).run Tryz.prog w = .ok (.slice (some ⟨g, q, none⟩) (n - 1) (c - 1)) w := by
  have hu : Tryz.prog.underlying 84 = some (.slice (Tryz.prog.elem 84)) := by kernel_rfl
  have hs : ∀ w, (sizeOf (Tryz.prog.elem 84)).run Tryz.prog w = .ok 6 w := fun w => by kernel_rfl
  refine ⟨if c = 1 then 0 else 6, fun h => by rw [if_neg (by omega)], fun w => ?_⟩
  have e := run_slice_l (P := Tryz.prog) w 84 (some ⟨g, 0, none⟩) n c hu .i64 1 (by omega) (by omega)
  rw [e, hs]
  by_cases h : c = 1
  · subst h; simp [sliced]
  · simp [sliced, h, add_off]

set_option maxHeartbeats 12800000 in
set_option maxRecDepth 100000 in
theorem Pmade_any (rd : List UInt8 → (Int × Int × List DOp) × Int) (ap : List UInt8 → Int → Int → List DOp → List UInt8 × Int) (w0 : World) (A : Option Addr) (n c : Nat) (p0 : PEn) (r : List PEn) (hn : r.length + 1 = n) (hn9 : n ≤ 100)
    (hrd : ∀ p ∈ r, RdSays rd p.ld) (hap : r ≠ [] → ApSays ap) (w : World) (hb : w0.heap.size ≤ w.heap.size) (h : Mn w0 w (.slice A n c) (p0 :: r)) :
    Calls Tryz.prog 35 #[.slice A n c] w (MdPost w0.heap.size w (madeP rd ap ((p0 :: r).map PEn.e))) := by
  have ho := h.own
  have hln : (p0 :: r).length = n := by rw [← hn]; rfl
  rw [hln] at ho
  rcases own_shape ho with ⟨hv, h0, _⟩ | ⟨g, cap, hv, hnc, hcm, hg⟩
  · omega
  · injection hv with e1 _ e3
    subst e1; subst e3
    obtain ⟨q, hq, hsl⟩ := slice_tl6 g n c (by omega) hnc
    obtain ⟨R, hR⟩ : ∃ R, madeP rd ap ((p0 :: r).map PEn.e) = R := ⟨_, rfl⟩
    rw [hR]
    obtain ⟨T, hT⟩ : ∃ T, mdR rd ap p0.ld (r.map PEn.e) = T := ⟨_, rfl⟩
    have HR := Lib.hid (show (if T.2 ≠ 0 then ((0, []), T.2) else ((p0.k, T.1), 0)) = R from by rw [← hR, ← hT]; rfl)
    have HT := Lib.hid hT
    have HM := Lib.hid h
    have hc0 : ∀ j u, p0.cells[j]? = some u → w.cell? ⟨g, j, none⟩ = some u := fun j u hu => by
      obtain ⟨_, _, hv2, hl, _⟩ := h.slice
      injection hv2 with e1 _ _
      rw [← e1] at hl
      have := ens_cells hl (k := 0) (p := p0) rfl j u hu
      simpa using this
    have HB := Lib.hid hb
    have HRD := Lib.hid hrd
    have HAP := Lib.hid hap
    have HN := Lib.hid hn
    have HQ := Lib.hid hq
    obtain ⟨k0, b0, s0, m0, l0, B0, c0, en0⟩ := p0
    have HO0 := Lib.hid (show w.ownsRow w0.heap.size 5 1 (.slice B0 l0.length c0) l0.length (bytesV l0) from h.ok ⟨k0, b0, s0, m0, l0, B0, c0, en0⟩ (by simp))
    have x4 : w.cell? ⟨g, 4, none⟩ = some (.slice B0 l0.length c0) := hc0 4 _ rfl
    have hk0 : w.cell? ⟨g, 0, none⟩ = some (.int .i64 k0) := hc0 0 _ rfl
    have HK0 := Lib.hid hk0
    have hz : ∀ j : Nat, n - 1 = j → (IntKind.i64.wrap ((n : Int) - 1)) = j := fun j hj => by rw [IntKind.wrap_i64]; omega
    have hn1 : (0 : Int) < n := by omega
    obtain ⟨M, hM⟩ : ∃ M, n - 1 = M := ⟨_, rfl⟩
    rw [hM] at hsl
    have HMn := Lib.hid hM
    simp only at HR HT
    obtain ⟨LL0, hLL0⟩ : ∃ LL, l0.length = LL := ⟨_, rfl⟩
    have HLL0 := Lib.hid hLL0
    rw [hLL0] at x4
    clear h ho hln hR hT hc0 hb hrd hap hn hq hk0 hM hz hLL0 hg
    go_enter Tryz.func35, Tryz.ntmps35
    go_wp2_with fail
    go_loopw [5, 17] (fun s5 s17 wr => ∃ (i : Nat) (v : Value) (body : List UInt8) (LB : Nat), s17 = .int .i64 i ∧ s5 = v ∧ i ≤ M ∧ Hid (body.length = LB) ∧ Hid (wr.ownsRow w0.heap.size 5 1 v LB (bytesV body)) ∧ Hid (Fr (fun _ => False) w wr) ∧ Hid (mdR rd ap body ((r.map PEn.e).drop i) = T)) (fun _ i _ => M - (intOf i).toNat)
    case atStart => exact ⟨0, _, l0, LL0, rfl, rfl, by omega, HLL0, Lib.hid (by have := HO0.out; rw [HLL0.out] at this; exact this), Lib.hid (Fr.refl _ _), HT⟩
    case round =>
      obtain ⟨i, v, body, LB, rfl, rfl, hi, HLB, HOb, HF, HX⟩ := hrel
      obtain ⟨Ab, cb, hvb, hkb, hmb⟩ := own_slice HOb.out
      subst hvb
      have hrl : r.length = M := by have := HN.out; have := HMn.out; omega
      by_cases hlt : i < M
      · have hi2 : (i : Int) < M := by omega
        obtain ⟨p, hp⟩ : ∃ p, r[i]? = some p := ⟨_, List.getElem?_eq_getElem (by omega)⟩
        have hpm := List.mem_of_getElem? hp
        have hrne : r ≠ [] := List.ne_nil_of_mem hpm
        have hq6 := HQ.out (by have := HN.out; omega)
        have HcP := Lib.hid (show ∀ j u, p.cells[j]? = some u → wr.cell? ⟨g, q + i * 6 + j, none⟩ = some u from fun j u hu => by
          obtain ⟨_, _, hv2, hl, _⟩ := HM.out.slice
          injection hv2 with e1 _ _
          rw [← e1] at hl
          have := ens_cells (hl.fr HF.out (fun _ _ e => e)) (k := i + 1) (p := p) (by simpa using hp) j u hu
          rw [show q + i * 6 + j = 0 + ((i + 1) * 6 + j) by omega]
          exact this)
        have HPo := Lib.hid (PEn.Ok.room (HM.out.ok p (by simp [hpm])))
        have HRs := Lib.hid (HRD.out p hpm)
        have HAs := Lib.hid (HAP.out hrne)
        have hdr : (r.map PEn.e).drop i = p.e :: (r.map PEn.e).drop (i + 1) := by
          rw [List.drop_eq_getElem_cons (by simp; omega)]
          congr 1
          have := List.getElem?_eq_some_iff.1 hp
          obtain ⟨h1, h2⟩ := this
          simp [h2]
        have hX := HX.out
        rw [hdr] at hX
        obtain ⟨k, ba, sz, sm, ld, B, cl, en⟩ := p
        have y0 := HcP.out 0 _ rfl
        have y1 := HcP.out 1 _ rfl
        have y2 := HcP.out 2 _ rfl
        have y3 := HcP.out 3 _ rfl
        have y4 := HcP.out 4 _ rfl
        have y5 := HcP.out 5 _ rfl
        rw [Nat.add_zero] at y0
        simp only at y0 y1 y2 y3 y4 y5
        unfold mdR at hX
        simp only [PEn.e] at hX
        unfold RdSays at HRs
        unfold ApSays at HAs
        simp only at HRs HPo
        obtain ⟨⟨⟨sb, st, os⟩, Es⟩, hs⟩ : ∃ z, rd ld = z := ⟨_, rfl⟩
        simp only [hs] at HRs hX
        have HAc := Lib.hid (fun S d (ps : List POp) (e : opsO ps = os) w' (l : Lies w' Ab (bytesV body)) (sc : Scr w' S d ps) => by
          have := HAs.out Ab cb body sb st S d ps w' (by rw [HLB.out]; exact hkb) hmb l sc
          rw [e] at this
          exact this)
        obtain ⟨⟨out, Ea⟩, ha⟩ : ∃ z, ap body sb st os = z := ⟨_, rfl⟩
        simp only [ha] at HAc hX
        obtain ⟨LL, hLL⟩ : ∃ LL, ld.length = LL := ⟨_, rfl⟩
        obtain ⟨LO, hLO⟩ : ∃ LO, out.length = LO := ⟨_, rfl⟩
        have HLO := Lib.hid hLO
        simp only [HLB.out, hLO] at HAc
        rw [hLL] at y4 HRs HPo
        have hwi : IntKind.i64.wrap ((i : Int) + 1) = ((i + 1 : Nat) : Int) := by have := HN.out; rw [IntKind.wrap_i64]; omega
        have HX2 := Lib.hid hX
        clear hX hp hpm hrne hq6 hdr hs ha hLL hLO hrl hkb hmb
        go_upto_region 5 with fail
        obtain ⟨w1, hw1⟩ : ∃ w1, wr.alloc (.cells #[.int .i64 k, .int .i64 ba, .int .i64 sz, .int .u32 sm, .slice B LL cl, .int .i64 en] 122) = w1 := ⟨_, rfl⟩
        rw [hw1]
        have HF1 := Lib.hid (show Fr (fun _ => False) wr w1 by subst hw1; exact (Fr.refl _ _).alloc _)
        have HX1 := Lib.hid (show Whole w1 wr.heap.size 122 #[.int .i64 k, .int .i64 ba, .int .i64 sz, .int .u32 sm, .slice B LL cl, .int .i64 en] by subst hw1; exact Whole.new _ _ _)
        clear hw1 y0 y1 y2 y3 y4 y5
        obtain ⟨x0, x1, x2, x3, x4, x5⟩ := HX1.out.six
        have HRc := Lib.hid (HRs.out B cl w1 HPo.out.1 ((HPo.out.2.2.fr HF.out (fun _ _ e => e)).fr HF1.out (fun _ _ e => e)))
        go_upto_region 6 with (go_at_call 58; refine HRc.out.mono ?_; rintro e w2 ⟨A2, c2, qs, rfl, s2, o2, b2⟩; have HS2 := Lib.hid s2; have HOp := Lib.hid o2; have HF2 := Lib.hid (HF1.out.then_below b2); clear s2 o2 b2)
        obtain ⟨LQ, hLQ⟩ : ∃ LQ, qs.length = LQ := ⟨_, rfl⟩
        have HLQ := Lib.hid hLQ
        rw [hLQ]
        obtain ⟨w3, hw3⟩ : ∃ w3, w2.alloc (.cells #[.int .i64 sb, .int .i64 st, .slice A2 LQ c2] 130) = w3 := ⟨_, rfl⟩
        rw [hw3]
        have HF3 := Lib.hid (show Fr (fun _ => False) wr w3 from by subst hw3; exact HF2.out.alloc _)
        have HF23 := Lib.hid (show Fr (fun _ => False) w2 w3 from by subst hw3; exact (Fr.refl _ _).alloc _)
        have HT3 := Lib.hid (show Whole w3 w2.heap.size 130 #[.int .i64 sb, .int .i64 st, .slice A2 LQ c2] by subst hw3; exact Whole.new _ _ _)
        have z0 : w3.cell? ⟨w2.heap.size, 0, none⟩ = some (.int .i64 sb) := by rw [HT3.out.cell]; rfl
        have z1 : w3.cell? ⟨w2.heap.size, 1, none⟩ = some (.int .i64 st) := by rw [HT3.out.cell]; rfl
        have z2 : w3.cell? ⟨w2.heap.size, 2, none⟩ = some (.slice A2 LQ c2) := by rw [HT3.out.cell]; rfl
        clear hw3 hLQ x0 x1 x2 x3 x4 x5
        have HFw3 := Lib.hid (HF.out.trans HF3.out (fun _ _ e => e))
        by_cases hEs : Es = 0
        · subst hEs
          have hX := HX2.out
          rw [if_neg (by simp)] at hX
          have HL3 := Lib.hid (show Lies w3 Ab (bytesV body) from (Lies.of_own HOb.out).fr HF3.out (fun _ _ e => e))
          have HAd := Lib.hid (HAc.out A2 c2 qs HOp.out w3 HL3.out (HS2.out.fr HF23.out))
          rw [HLQ.out] at HAd
          by_cases hEa : Ea = 0
          · subst hEa
            rw [if_neg (by simp)] at hX
            have HXn := Lib.hid hX
            clear hX
            go_wp2_with (go_at_call 59; refine HAd.out.mono ?_; rintro e w4 ⟨v4, rfl, o4, b4⟩; have HO4 := Lib.hid (own_down o4 (show w0.heap.size ≤ w3.heap.size from by have := HB.out; have := HFw3.out.size; omega)); have HF4 := Lib.hid (HFw3.out.then_below b4); clear o4 b4)
            go_roundw
            case rel => exact ⟨i + 1, v4, out, LO, by go_num, rfl, by omega, HLO, HO4, HF4, HXn⟩
            case measure => simp [intOf]; omega
          · rw [if_pos hEa] at hX
            have hEa' : (Ea != 0) = true := by simpa using hEa
            have HRz := Lib.hid (show R = ((0, []), Ea) from by rw [← HR.out, ← hX, if_pos hEa])
            clear hX hEa
            go_wp2_with (go_at_call 59; refine HAd.out.mono ?_; rintro e w4 ⟨v4, rfl, o4, b4⟩; have HF4 := Lib.hid (HFw3.out.then_below b4); clear o4 b4)
            (
              go_ret3
              rw [HRz.out]
              exact ⟨.slice none 0 0, rfl, World.ownsRow_nil _ _ _ _, HF4.out.below (fun _ _ e => e)⟩)
        · have hX := HX2.out
          rw [if_pos hEs] at hX
          have hEs' : (Es != 0) = true := by simpa using hEs
          have HRz := Lib.hid (show R = ((0, []), Es) from by rw [← HR.out, ← hX, if_pos hEs])
          clear hX hEs
          go_wp2_with fail
          (
            go_ret3
            rw [HRz.out]
            exact ⟨.slice none 0 0, rfl, World.ownsRow_nil _ _ _ _, HFw3.out.below (fun _ _ e => e)⟩)
      · obtain rfl : i = M := by omega
        have hX := HX.out
        rw [List.drop_of_length_le (by simp; omega)] at hX
        have HRz := Lib.hid (show R = ((k0, body), 0) from by rw [← HR.out, ← hX]; exact if_neg (by simp [mdR]))
        have hk := HF.out.cell HK0.out (fun e => e)
        clear hX hrl
        go_wp2_with fail
        go_ret3
        rw [HRz.out]
        exact ⟨_, rfl, by simp only [HLB.out]; exact HOb.out, HF.out.below (fun _ _ e => e)⟩
end Go.Proofs.YtkaeoflgnnlbeaaGreatDoor
/- What is proved: the object of an entry, by the program; over what reading a script and applying it tells. Conditions: the bytes are there; the two calls on scripts tell what is said of them. -/
namespace Go.Proofs.YtkaeoflgnnlbeaaGreatDoor
open Go.RowKit
set_option linter.unusedVariables false

theorem chP_len (bs : List UInt8) (n : Nat) (at' : Int) : (chP bs n at').1.length ≤ n + 1 := by
  induction n generalizing at' with
  | zero => unfold chP; split <;> simp
  | succ n ih =>
    unfold chP
    split
    · simp
    · split
      · simp
      · split
        · simp
        · have := ih (opnE bs at' (8 - (n + 1))).1.2.1
          simp only [List.length_cons]
          omega
/-- What is asked of the two calls on scripts, for an entry at a place. -/
structure Says (rd : List UInt8 → (Int × Int × List DOp) × Int) (ap : List UInt8 → Int → Int → List DOp → List UInt8 × Int) (bs : List UInt8) (at' : Int) : Prop where
  rd : ∀ x ∈ (chP bs 8 at').1.reverse.tail, RdSays rd x.2.2.2.2
  ap : (chP bs 8 at').1.reverse.tail ≠ [] → ApSays ap

set_option maxHeartbeats 3200000 in
set_option maxRecDepth 100000 in
theorem PRead_any (rd : List UInt8 → (Int × Int × List DOp) × Int) (ap : List UInt8 → Int → Int → List DOp → List UInt8 × Int) (A : Option Addr) (c : Nat) (bs : List UInt8) (hc : bs.length ≤ c) (hcc : c ≤ 9223372036854775807) (hbs : bs.length ≤ 140737488355328) (at' : Int) (ha : -9223372036854775808 ≤ at' ∧ at' ≤ 9223372036854775807)
    (hs : Says rd ap bs at') (w : World) (h : Lies w A (bytesV bs)) :
    Calls Tryz.prog 15 #[.slice A bs.length c, .int .i64 at'] w (RdPost w (readP rd ap bs 8 at')) := by
  have HC := Lib.hid (PchainOf_any A c bs hc hcc hbs at' ha w h)
  unfold ChPost at HC
  obtain ⟨R, hR⟩ : ∃ R, readP rd ap bs 8 at' = R := ⟨_, rfl⟩
  rw [hR]
  rw [readP_ch] at hR
  have hln := chP_len bs 8 at'
  have hne := chP_ne bs 8 at'
  obtain ⟨s1, s2⟩ := hs
  obtain ⟨⟨es, E⟩, hz⟩ : ∃ z, chP bs 8 at' = z := ⟨_, rfl⟩
  rw [hz] at HC hR hln hne s1 s2
  simp only at HC hR hln hne s1 s2
  obtain ⟨L, hL⟩ : ∃ L, bs.length = L := ⟨_, rfl⟩
  rw [hL] at HC ⊢
  have HS := Lib.hid (And.intro s1 s2)
  clear hL hz hbs hc s1 s2 h
  by_cases hE : E = 0
  · subst hE
    rw [if_neg (by simp)] at hR
    have HR := Lib.hid hR.symm
    have hne := hne rfl
    have HMd : Hid (∀ A' n' c' (ps : List PEn) w', ps.length = n' → Mn w w' (.slice A' n' c') ps → ps.map PEn.e = es.reverse → w.heap.size ≤ w'.heap.size → Calls Tryz.prog 35 #[.slice A' n' c'] w' (MdPost w.heap.size w' R)) := Lib.hid (fun A' n' c' ps w' hn hm he hb => by
      cases ps with
      | nil => simp at he; exact absurd he hne
      | cons p0 r =>
        have ht : r.map PEn.e = es.reverse.tail := by rw [← he]; rfl
        rw [HR.out, ← he]
        refine Pmade_any rd ap w A' n' c' p0 r (by rw [← hn]; rfl) (by have := congrArg List.length he; simp at this hn; omega) (fun p hp => ?_) (fun hr => HS.out.2 (by rw [← ht]; simpa using hr)) w' hb hm
        exact HS.out.1 p.e (by rw [← ht]; exact List.mem_map_of_mem hp))
    clear hR hne hln
    go_enter Tryz.func15, Tryz.ntmps15
    go_wp2_with (first
      | (go_at_call 35; refine (HMd.out A1 n1 c1 ps w1 HN1.out HM1.out HE1.out HB1.out.size).mono ?_; rintro e w2 ⟨v2, rfl, o2, b2⟩; have HO2 := Lib.hid o2; have HF2 := Lib.hid ((Fr.of_below (S := fun _ => False) HB1.out).then_below b2); clear o2 b2)
      | (go_at_call 34; refine HC.out.mono ?_; rintro e w1 ⟨A1, ps, c1, rfl, m1, e1, b1⟩; obtain ⟨n1, hn1⟩ : ∃ n1, ps.length = n1 := ⟨_, rfl⟩; have HN1 := Lib.hid hn1; rw [hn1] at m1 ⊢; have HM1 := Lib.hid m1; have HE1 := Lib.hid e1; have HB1 := Lib.hid b1; clear m1 e1 b1 hn1))
    go_ret3
    exact ⟨v2, rfl, HO2.out, HF2.out.below (fun _ _ e => e)⟩
  · rw [if_pos hE] at hR
    have HR := Lib.hid hR.symm
    have hE' : (E != 0) = true := by simpa using hE
    clear hR hE hne hln
    go_enter Tryz.func15, Tryz.ntmps15
    go_wp2_with (go_at_call 34; refine HC.out.mono ?_; rintro e w1 ⟨A1, ps, c1, rfl, m1, e1, b1⟩; obtain ⟨n1, hn1⟩ : ∃ n1, ps.length = n1 := ⟨_, rfl⟩; rw [hn1]; have HB1 := Lib.hid b1; clear m1 e1 b1 hn1)
    go_ret3
    rw [HR.out]
    exact ⟨.slice none 0 0, rfl, World.ownsRow_nil _ _ _ _, HB1.out⟩
end Go.Proofs.YtkaeoflgnnlbeaaGreatDoor

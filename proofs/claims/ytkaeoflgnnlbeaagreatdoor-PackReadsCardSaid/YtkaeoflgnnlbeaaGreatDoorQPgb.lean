/- What is proved: texts that stand one behind the other: Pgb. Conditions: each theorem names its own. -/
import Derived.Test.YtkaeoflgnnlbeaaGreatDoorQPga
import Derived.Test.YtkaeoflgnnlbeaaGreatDoorQDea
import Derived.OwnWalk
/- What is proved: the object of an entry, plainly, and by the document; over what reading a script and applying it tells. Conditions: the bytes are there; the two calls on scripts tell what is said of them. -/
namespace Go.Proofs.YtkaeoflgnnlbeaaGreatDoor
open Go.RowKit
set_option linter.unusedVariables false

/-- The object of an entry; n more may lie on one another. -/
def readP (rd : List UInt8 → (Int × Int × List DOp) × Int) (ap : List UInt8 → Int → Int → List DOp → List UInt8 × Int) (bs : List UInt8) : Nat → Int → (Int × List UInt8) × Int
  | 0, at' => let x := opnE bs at' 8; if x.2 ≠ 0 then ((0, []), x.2) else ((x.1.1, x.1.2.2.2.2), 0)
  | n + 1, at' =>
    let x := opnE bs at' (8 - (n + 1))
    if x.2 ≠ 0 then ((0, []), x.2)
    else if x.1.1 < 5 then ((x.1.1, x.1.2.2.2.2), 0)
    else
      let r := readP rd ap bs n x.1.2.1
      if r.2 ≠ 0 then ((0, []), r.2)
      else
        let s := rd x.1.2.2.2.2
        if s.2 ≠ 0 then ((0, []), s.2)
        else
          let a := ap r.1.2 s.1.1 s.1.2.1 s.1.2.2
          if a.2 ≠ 0 then ((0, []), a.2) else ((r.1.1, a.1), 0)
theorem opnT_ok {D : List UInt8} {k base size : Int} {p : Nat} {er : Int} (h : (opnT D k base size p er).2 = 0) : (opnT D k base size p er).1.1 = k ∧ (opnT D k base size p er).1.2.1 = base ∧ (0 ≤ size → er = 0) := by
  unfold opnT at h ⊢
  split at h
  · rename_i h1
    exact absurd h h1
  · rename_i h1
    rw [if_neg h1]
    split at h
    · exact absurd h (by simp [zE])
    · rename_i h2
      rw [if_neg h2]
      refine ⟨rfl, rfl, fun hs => ?_⟩
      by_cases he : er = 0
      · exact he
      · exfalso
        apply h1
        unfold rawErr
        rw [if_neg (by omega)]
        have e1 : hasErr D.length p er 4 = er := by unfold hasErr; rw [if_neg he]
        rw [e1]
        unfold hasErr
        rw [if_neg he]
        exact he
/-- Of an entry that is told: its kind, and where its base begins. -/
theorem opnE_ok {bs : List UInt8} {at' over : Int} (h : (opnE bs at' over).2 = 0) : (over = 8 → (opnE bs at' over).1.1 < 5) ∧ 0 ≤ (opnE bs at' over).1.2.1 ∧ (opnE bs at' over).1.2.1 ≤ bs.length := by
  unfold opnE at h ⊢
  split at h
  · cases h
  · rename_i h1
    rw [if_neg h1]
    split at h
    · cases h
    · rename_i h2
      rw [if_neg h2]
      generalize hD : bs.take (bs.length - 32) = D at h ⊢
      unfold opnD opnK at h ⊢
      generalize varO D (stepAt D.length at'.toNat 0 1) (hasErr D.length at'.toNat 0 1) 4000 = z at h ⊢
      split at h
      · cases h
      · rename_i h3
        rw [if_neg h3]
        split at h
        · rename_i h4
          rw [if_pos h4]
          generalize varO D z.2.1 z.2.2 1048576 = y at h ⊢
          split at h
          · cases h
          · rename_i h5
            rw [if_neg h5]
            split at h
            · cases h
            · rename_i h6
              rw [if_neg h6]
              obtain ⟨g1, g2, g3⟩ := opnT_ok h
              have g4 := g3 (by omega)
              rw [g1, g2]
              refine ⟨fun ho => absurd ⟨g4, ho⟩ h6, ?_, ?_⟩
              · have : ¬ ((y.1 : Int) = 0 ∨ at' - y.1 < 12) := fun e => h5 ⟨g4, by simpa using e⟩
                omega
              · omega
        · rename_i h4
          rw [if_neg h4]
          obtain ⟨g1, g2, _⟩ := opnT_ok h
          rw [g1, g2]
          refine ⟨fun _ => by omega, by omega, by omega⟩

/-- What Read tells. -/
def RdPost (w : World) (R : (Int × List UInt8) × Int) (e : Ending) (w' : World) : Prop :=
  ∃ v, e = .returned (.tuple #[.int .i64 R.1.1, v, .int .i64 R.2]) ∧ w'.ownsRow w.heap.size 5 1 v R.1.2.length (bytesV R.1.2) ∧ Below w.heap.size w w'
theorem Fr.below0 {a b c : World} (h : Fr (fun _ => False) b c) (k : Below a.heap.size a b) : Below a.heap.size a c :=
  ((Fr.of_below (S := fun _ => False) k).trans h (fun _ _ e => e)).below (fun _ _ e => e)
theorem opnE_load (bs : List UInt8) (at' over : Int) : (opnE bs at' over).1.2.2.2.2.length ≤ bs.length := by
  have hz : ∀ e, (zE e).1.2.2.2.2.length ≤ bs.length := fun e => Nat.zero_le _
  have ht : ∀ (k base size : Int) (p : Nat) (er : Int), (opnT (bs.take (bs.length - 32)) k base size p er).1.2.2.2.2.length ≤ bs.length := fun k base size p er => by
    unfold opnT
    split
    · exact hz _
    · split
      · exact hz _
      · simp only
        unfold rawB
        split
        · exact Nat.zero_le _
        · split
          · rw [List.length_take, List.length_drop, List.length_take]; omega
          · exact Nat.zero_le _
  unfold opnE
  split
  · exact hz _
  · split
    · exact hz _
    · unfold opnD opnK
      split
      · exact hz _
      · split
        · split
          · exact hz _
          · split
            · exact hz _
            · exact ht _ _ _ _ _
        · exact ht _ _ _ _ _

set_option maxHeartbeats 12800000 in
set_option maxRecDepth 100000 in
theorem QPRead_any (rd : List UInt8 → (Int × Int × List DOp) × Int) (ap : List UInt8 → Int → Int → List DOp → List UInt8 × Int)
    (hrd : ∀ (A : Option Addr) (c : Nat) (l : List UInt8) (w : World), l.length ≤ 140737488355328 → l.length ≤ c → Lies w A (bytesV l) → Calls Tryz.prog 37 #[.slice A l.length c] w fun e w' => ∃ A' c' ps, e = .returned (.tuple #[.agg #[.int .i64 (rd l).1.1, .int .i64 (rd l).1.2.1, .slice A' ps.length c'], .int .i64 (rd l).2]) ∧ Scr w' A' c' ps ∧ opsO ps = (rd l).1.2.2 ∧ Below w.heap.size w w')
    (hap : ∀ (A : Option Addr) (c : Nat) (xs : List UInt8) (b t : Int) (S : Option Addr) (d : Nat) (ps : List POp) (w : World), xs.length ≤ c → c ≤ 9223372036854775807 → Lies w A (bytesV xs) → Scr w S d ps → Calls Tryz.prog 38 #[.slice A xs.length c, .agg #[.int .i64 b, .int .i64 t, .slice S ps.length d]] w fun e w' => ∃ v, e = .returned (.tuple #[v, .int .i64 (ap xs b t (opsO ps)).2]) ∧ w'.ownsRow w.heap.size 5 1 v (ap xs b t (opsO ps)).1.length (bytesV (ap xs b t (opsO ps)).1) ∧ Below w.heap.size w w')
    (A : Option Addr) (c : Nat) (bs : List UInt8) (hc : bs.length ≤ c) (hcc : c ≤ 9223372036854775807) (hbs : bs.length ≤ 140737488355328) :
    ∀ (n : Nat) (at' ov : Int) (w : World), n ≤ 8 → ov = 8 - n → -9223372036854775808 ≤ at' ∧ at' ≤ 9223372036854775807 → Lies w A (bytesV bs) →
      Calls Tryz.prog 16 #[.slice A bs.length c, .int .i64 at', .int .i64 ov] w (RdPost w (readP rd ap bs n at')) := by
  have HRD := Lib.hid hrd
  have HAP := Lib.hid hap
  have HHy := Lib.hid (And.intro hc (And.intro hcc hbs))
  clear hrd hap hc hcc hbs
  intro n
  induction n with
  | zero =>
    intro at' ov w hn hov ha hl
    obtain rfl : ov = 8 := by omega
    obtain ⟨Q, hQ⟩ : ∃ Q, readP rd ap bs 0 at' = Q := ⟨_, rfl⟩
    rw [hQ]
    have HO := Lib.hid (QPOpen_any A c bs HHy.out.1 HHy.out.2.1 HHy.out.2.2 at' 8 ha w hl)
    have hok := opnE_ok (bs := bs) (at' := at') (over := 8)
    unfold readP at hQ
    obtain ⟨⟨⟨k, ba, en, sm, ld⟩, E⟩, hR⟩ : ∃ R, opnE bs at' 8 = R := ⟨_, rfl⟩
    rw [hR] at HO hQ hok
    unfold OpPost at HO
    simp only at HO hQ hok
    obtain ⟨LL, hLL⟩ : ∃ LL, ld.length = LL := ⟨_, rfl⟩
    have HLL := Lib.hid hLL
    rw [hLL] at HO
    obtain ⟨L, hL⟩ : ∃ L, bs.length = L := ⟨_, rfl⟩
    rw [hL] at HO ⊢
    clear hLL hL hR hov hn
    obtain ⟨ha0, ha1⟩ := ha
    by_cases hE : E = 0
    · subst hE
      rw [if_neg (by simp)] at hQ
      have HQ := Lib.hid hQ.symm
      have hk := (hok rfl).1 trivial
      clear hQ hok
      go_enter Tryz.func16, Tryz.ntmps16
      go_upto_region 2 with (go_at_call 36; refine HO.out.mono ?_; rintro e w1 ⟨v1, rfl, o1, b1⟩; have HO1 := Lib.hid o1; have HB1 := Lib.hid b1; obtain ⟨A1, c1, hv1, _, _⟩ := own_slice o1; subst hv1; clear o1 b1)
      (
        obtain ⟨w2, hw2⟩ : ∃ w2, w1.alloc (.cells #[.int .i64 k, .int .i64 ba, .int .i64 en, .int .u32 sm, .slice A1 LL c1] 89) = w2 := ⟨_, rfl⟩
        rw [hw2]
        have HF2 := Lib.hid (show Fr (fun _ => False) w1 w2 by subst hw2; exact (Fr.refl _ _).alloc _)
        have HX2 := Lib.hid (show Whole w2 w1.heap.size 89 #[.int .i64 k, .int .i64 ba, .int .i64 en, .int .u32 sm, .slice A1 LL c1] by subst hw2; exact Whole.new _ _ _)
        clear hw2
        obtain ⟨x0, x1, x2, x3, x4⟩ := HX2.out.five)
      have hkl : (k : Int) < 5 := hk
      (
        go_upto_region 5 with fail
        go_big_region
        have HFd := Lib.hid (show Fr (fun _ => False) w1 w2.drew from HF2.out.drew)
        go_wp2_with fail
        go_ret3
        rw [HQ.out]
        exact ⟨.slice A1 LL c1, rfl, by simp only [HLL.out]; exact own_fr HO1.out HFd.out (fun _ _ e => e), HFd.out.below0 HB1.out⟩)
    · rw [if_pos hE] at hQ
      have HQ := Lib.hid hQ.symm
      have hE' : (E != 0) = true := by simpa using hE
      clear hQ hok hE
      go_enter Tryz.func16, Tryz.ntmps16
      go_upto_region 2 with (go_at_call 36; refine HO.out.mono ?_; rintro e w1 ⟨v1, rfl, o1, b1⟩; have HO1 := Lib.hid o1; have HB1 := Lib.hid b1; obtain ⟨A1, c1, hv1, _, _⟩ := own_slice o1; subst hv1; clear o1 b1)
      (
        obtain ⟨w2, hw2⟩ : ∃ w2, w1.alloc (.cells #[.int .i64 k, .int .i64 ba, .int .i64 en, .int .u32 sm, .slice A1 LL c1] 89) = w2 := ⟨_, rfl⟩
        rw [hw2]
        have HF2 := Lib.hid (show Fr (fun _ => False) w1 w2 by subst hw2; exact (Fr.refl _ _).alloc _)
        have HX2 := Lib.hid (show Whole w2 w1.heap.size 89 #[.int .i64 k, .int .i64 ba, .int .i64 en, .int .u32 sm, .slice A1 LL c1] by subst hw2; exact Whole.new _ _ _)
        clear hw2
        obtain ⟨x0, x1, x2, x3, x4⟩ := HX2.out.five)
      (
        go_wp2_with fail
        go_ret3
        rw [HQ.out]
        exact ⟨.slice none 0 0, rfl, World.ownsRow_nil _ _ _ _, HF2.out.below0 HB1.out⟩)
  | succ n ih =>
    intro at' ov w hn hov ha hl
    have hov1 : ov = 8 - ((n : Int) + 1) := by rw [hov]; push_cast; rfl
    obtain ⟨Q, hQ⟩ : ∃ Q, readP rd ap bs (n + 1) at' = Q := ⟨_, rfl⟩
    rw [hQ]
    have HO := Lib.hid (QPOpen_any A c bs HHy.out.1 HHy.out.2.1 HHy.out.2.2 at' ov ha w hl)
    have hok := opnE_ok (bs := bs) (at' := at') (over := ov)
    have hll := opnE_load bs at' ov
    unfold readP at hQ
    rw [← hov1] at hQ
    obtain ⟨⟨⟨k, ba, en, sm, ld⟩, E⟩, hR⟩ : ∃ R, opnE bs at' ov = R := ⟨_, rfl⟩
    rw [hR] at HO hQ hok hll
    unfold OpPost at HO
    simp only at HO hQ hok hll
    obtain ⟨LL, hLL⟩ : ∃ LL, ld.length = LL := ⟨_, rfl⟩
    have HLL := Lib.hid hLL
    rw [hLL] at HO hll
    have HL0 := Lib.hid (show LL ≤ 140737488355328 from Nat.le_trans hll HHy.out.2.2)
    have HIh := Lib.hid (fun (b0 : 0 ≤ ba) (b1 : ba ≤ bs.length) (w' : World) (l : Lies w' A (bytesV bs)) => ih ba (ov + 1) w' (by omega) (by omega) ⟨by omega, by have := HHy.out.2.2; omega⟩ l)
    have hwo : IntKind.i64.wrap (ov + 1) = ov + 1 := by rw [IntKind.wrap_i64]; omega
    have HA := Lib.hid hl
    obtain ⟨⟨⟨kr, body⟩, Er⟩, hr⟩ : ∃ r, readP rd ap bs n ba = r := ⟨_, rfl⟩
    rw [hr] at HIh hQ
    simp only at hQ
    have HRd := Lib.hid (fun A1 (c1 : Nat) (h1 : ld.length ≤ c1) w' (l : Lies w' A1 (bytesV ld)) => HRD.out A1 c1 ld w' (by rw [hLL]; exact HL0.out) h1 l)
    obtain ⟨⟨⟨sb, st, os⟩, Es⟩, hs⟩ : ∃ s, rd ld = s := ⟨_, rfl⟩
    rw [hs] at HRd hQ
    simp only [hLL] at HRd hQ
    have HAp := Lib.hid (fun A3 (c3 : Nat) S (d : Nat) (ps : List POp) (e : opsO ps = os) w' (h1 : body.length ≤ c3) (h2 : c3 ≤ 9223372036854775807) (l : Lies w' A3 (bytesV body)) (sc : Scr w' S d ps) => by
      have := HAP.out A3 c3 body sb st S d ps w' h1 h2 l sc
      rw [e] at this
      exact this)
    obtain ⟨⟨out, Ea⟩, ha'⟩ : ∃ a, ap body sb st os = a := ⟨_, rfl⟩
    rw [ha'] at HAp hQ
    unfold RdPost at HIh
    obtain ⟨LB, hLB⟩ : ∃ LB, body.length = LB := ⟨_, rfl⟩
    obtain ⟨LO, hLO⟩ : ∃ LO, out.length = LO := ⟨_, rfl⟩
    have HLB := Lib.hid hLB
    have HLO := Lib.hid hLO
    simp only [hLB, hLO] at HIh HAp
    simp only at hQ
    obtain ⟨L, hL⟩ : ∃ L, bs.length = L := ⟨_, rfl⟩
    rw [hL] at HO HIh hok ⊢
    clear hLL hL hR hov hov1 hn hr hs ha' hLB hLO ih hll hl
    obtain ⟨ha0, ha1⟩ := ha
    by_cases hE : E = 0
    · subst hE
      rw [if_neg (by simp)] at hQ
      obtain ⟨-, hb0, hb1⟩ := hok rfl
      clear hok
      go_enter Tryz.func16, Tryz.ntmps16
      go_upto_region 2 with (go_at_call 36; refine HO.out.mono ?_; rintro e w1 ⟨v1, rfl, o1, b1⟩; have HO1 := Lib.hid o1; have HB1 := Lib.hid b1; obtain ⟨A1, c1, hv1, hk1, _⟩ := own_slice o1; subst hv1; clear o1 b1)
      (
        obtain ⟨w2, hw2⟩ : ∃ w2, w1.alloc (.cells #[.int .i64 k, .int .i64 ba, .int .i64 en, .int .u32 sm, .slice A1 LL c1] 89) = w2 := ⟨_, rfl⟩
        rw [hw2]
        have HF2 := Lib.hid (show Fr (fun _ => False) w1 w2 by subst hw2; exact (Fr.refl _ _).alloc _)
        have HX2 := Lib.hid (show Whole w2 w1.heap.size 89 #[.int .i64 k, .int .i64 ba, .int .i64 en, .int .u32 sm, .slice A1 LL c1] by subst hw2; exact Whole.new _ _ _)
        clear hw2
        obtain ⟨x0, x1, x2, x3, x4⟩ := HX2.out.five)
      by_cases hk : (k : Int) < 5
      · rw [if_pos hk] at hQ
        have HQ := Lib.hid hQ.symm
        clear hQ
        (
          go_upto_region 5 with fail
          go_big_region
          have HFd := Lib.hid (show Fr (fun _ => False) w1 w2.drew from HF2.out.drew)
          go_wp2_with fail
          go_ret3
          rw [HQ.out]
          exact ⟨.slice A1 LL c1, rfl, by simp only [HLL.out]; exact own_fr HO1.out HFd.out (fun _ _ e => e), HFd.out.below0 HB1.out⟩)
      · rw [if_neg hk] at hQ
        have HA2 := Lib.hid (HA.out.fr ((Fr.of_below (S := fun _ => False) HB1.out).trans HF2.out (fun _ _ e => e)) (fun _ _ e => e))
        have HCl := Lib.hid (HIh.out hb0 hb1 w2 HA2.out)
        have HF02 := Lib.hid (show Fr (fun _ => False) w w2 from (Fr.of_below (S := fun _ => False) HB1.out).trans HF2.out (fun _ _ e => e))
        clear hb0 hb1
        go_upto_region 7 with (go_at_call 16; refine HCl.out.mono ?_; rintro e w3 ⟨v3, rfl, o3, b3⟩; have HO3 := Lib.hid o3; have HF3 := Lib.hid (HF02.out.then_below b3); have HX3 := Lib.hid (HX2.out.fr (Fr.of_below (S := fun _ => False) b3) (fun e => e)); have HO13 := Lib.hid (own_fr HO1.out (HF2.out.then_below b3) (fun _ _ e => e)); obtain ⟨A3, c3, hv3, hk3, hk3m⟩ := own_slice o3; subst hv3; clear o3 b3)
        clear x0 x1 x2 x3 x4
        obtain ⟨x0, x1, x2, x3, x4⟩ := HX3.out.five
        by_cases hEr : Er = 0
        · subst hEr
          rw [if_neg (by simp)] at hQ
          have HRc := Lib.hid (HRd.out A1 c1 hk1 w3 (Lies.of_own HO13.out))
          go_upto_region 10 with (go_at_call 37; refine HRc.out.mono ?_; rintro e w4 ⟨A4, c4, ps, rfl, s4, o4, b4⟩; have HS4 := Lib.hid s4; have HOp4 := Lib.hid o4; have HF4 := Lib.hid (HF3.out.then_below b4); have HO34 := Lib.hid (own_fr HO3.out (Fr.of_below (S := fun _ => False) b4) (fun _ _ e => e)); clear s4 o4 b4)
          obtain ⟨LP, hLP⟩ : ∃ LP, ps.length = LP := ⟨_, rfl⟩
          have HLP := Lib.hid hLP
          rw [hLP]
          obtain ⟨w5, hw5⟩ : ∃ w5, w4.alloc (.cells #[.int .i64 sb, .int .i64 st, .slice A4 LP c4] 94) = w5 := ⟨_, rfl⟩
          rw [hw5]
          have HF45 := Lib.hid (show Fr (fun _ => False) w4 w5 by subst hw5; exact (Fr.refl _ _).alloc _)
          have HT5 := Lib.hid (show Whole w5 w4.heap.size 94 #[.int .i64 sb, .int .i64 st, .slice A4 LP c4] by subst hw5; exact Whole.new _ _ _)
          have HF5 := Lib.hid (HF4.out.trans HF45.out (fun _ _ e => e))
          have HS5 := Lib.hid (HS4.out.fr HF45.out)
          have HO5 := Lib.hid (own_fr HO34.out HF45.out (fun _ _ e => e))
          clear hw5 hLP
          have y0 : w5.cell? ⟨w4.heap.size, 0, none⟩ = some (.int .i64 sb) := by rw [HT5.out.cell]; rfl
          have y1 : w5.cell? ⟨w4.heap.size, 1, none⟩ = some (.int .i64 st) := by rw [HT5.out.cell]; rfl
          have y2 : w5.cell? ⟨w4.heap.size, 2, none⟩ = some (.slice A4 LP c4) := by rw [HT5.out.cell]; rfl
          by_cases hEs : Es = 0
          · subst hEs
            rw [if_neg (by simp)] at hQ
            have HAc := Lib.hid (HAp.out A3 c3 A4 c4 ps HOp4.out w5 hk3 (by unfold maxLen at hk3m; omega) (Lies.of_own HO5.out) HS5.out)
            simp only [HLP.out] at HAc
            go_upto_region 13 with (go_at_call 38; refine HAc.out.mono ?_; rintro e w6 ⟨v6, rfl, o6, b6⟩; have HO6 := Lib.hid o6; have HF6 := Lib.hid (HF5.out.then_below b6); obtain ⟨A6, c6, hv6, _, _⟩ := own_slice o6; subst hv6; clear o6 b6)
            by_cases hEa : Ea = 0
            · subst hEa
              rw [if_neg (by simp)] at hQ
              have HQ := Lib.hid hQ.symm
              clear hQ
              go_wp2_with fail
              go_ret3
              rw [HQ.out]
              exact ⟨.slice A6 LO c6, rfl, by simp only [HLO.out]; exact own_lowerP HO6.out HF5.out.size, HF6.out.below (fun _ _ e => e)⟩
            · rw [if_pos hEa] at hQ
              have HQ := Lib.hid hQ.symm
              have hEa' : (Ea != 0) = true := by simpa using hEa
              clear hQ hEa
              (
                go_wp2_with fail
                go_ret3
                rw [HQ.out]
                exact ⟨.slice none 0 0, rfl, World.ownsRow_nil _ _ _ _, HF6.out.below (fun _ _ e => e)⟩)
          · rw [if_pos hEs] at hQ
            have HQ := Lib.hid hQ.symm
            have hEs' : (Es != 0) = true := by simpa using hEs
            clear hQ hEs
            (
              go_wp2_with fail
              go_ret3
              rw [HQ.out]
              exact ⟨.slice none 0 0, rfl, World.ownsRow_nil _ _ _ _, HF5.out.below (fun _ _ e => e)⟩)
        · rw [if_pos hEr] at hQ
          have HQ := Lib.hid hQ.symm
          have hEr' : (Er != 0) = true := by simpa using hEr
          clear hQ hEr
          (
            go_wp2_with fail
            go_ret3
            rw [HQ.out]
            exact ⟨.slice none 0 0, rfl, World.ownsRow_nil _ _ _ _, HF3.out.below (fun _ _ e => e)⟩)
    · rw [if_pos hE] at hQ
      have HQ := Lib.hid hQ.symm
      have hE' : (E != 0) = true := by simpa using hE
      clear hQ hok hE
      go_enter Tryz.func16, Tryz.ntmps16
      go_upto_region 2 with (go_at_call 36; refine HO.out.mono ?_; rintro e w1 ⟨v1, rfl, o1, b1⟩; have HO1 := Lib.hid o1; have HB1 := Lib.hid b1; obtain ⟨A1, c1, hv1, _, _⟩ := own_slice o1; subst hv1; clear o1 b1)
      (
        obtain ⟨w2, hw2⟩ : ∃ w2, w1.alloc (.cells #[.int .i64 k, .int .i64 ba, .int .i64 en, .int .u32 sm, .slice A1 LL c1] 89) = w2 := ⟨_, rfl⟩
        rw [hw2]
        have HF2 := Lib.hid (show Fr (fun _ => False) w1 w2 by subst hw2; exact (Fr.refl _ _).alloc _)
        have HX2 := Lib.hid (show Whole w2 w1.heap.size 89 #[.int .i64 k, .int .i64 ba, .int .i64 en, .int .u32 sm, .slice A1 LL c1] by subst hw2; exact Whole.new _ _ _)
        clear hw2
        obtain ⟨x0, x1, x2, x3, x4⟩ := HX2.out.five)
      (
        go_wp2_with fail
        go_ret3
        rw [HQ.out]
        exact ⟨.slice none 0 0, rfl, World.ownsRow_nil _ _ _ _, HF2.out.below0 HB1.out⟩)
end Go.Proofs.YtkaeoflgnnlbeaaGreatDoor

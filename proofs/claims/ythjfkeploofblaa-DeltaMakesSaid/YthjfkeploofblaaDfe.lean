/- What is proved: what is read of bytes is put as just these, and what is put is read again, plainly. Conditions: none; no program is named. -/
import Derived.Test.YthjfkeploofblaaDfa
import Derived.Test.YthjfkeploofblaaDep
namespace Go.Proofs.Ythjfkeploofblaa
open Go.RowKit
set_option linter.unusedVariables false

theorem varO_cut {bs : List UInt8} {p : Nat} {er most : Int} {n q : Nat} (h : varO bs p er most = (n, q, 0)) : er = 0 ∧ bs.drop p = varB n ++ bs.drop q ∧ (p ≤ bs.length → q ≤ bs.length) := by
  obtain ⟨h1, h2, rest, h3⟩ := varO_inv h rfl
  simp only at h2 h3
  have h4 : bs.drop q = rest := by rw [h2, ← List.drop_drop, h3, List.drop_left]
  refine ⟨h1, by rw [h3, h4], fun hp => ?_⟩
  have := congrArg List.length h3
  rw [List.length_drop, List.length_append] at this
  omega
theorem byte_cut {bs : List UInt8} {p : Nat} (h : p < bs.length) {b : UInt8} (hb : (bs.getD p 0).toNat = b.toNat) : bs.drop p = b :: bs.drop (p + 1) := by
  rw [drop_byte h]
  unfold byteAt
  rw [if_pos rfl, UInt8.toNat_inj.1 hb]
theorem putO_copy (f n : Nat) : putO (copyO f n) = [1] ++ varB f ++ varB n := by unfold putO copyO; rw [if_pos rfl]; simp
theorem putO_new (l : List UInt8) : putO (newO l) = [0] ++ varB l.length ++ l := by unfold putO newO; rw [if_neg (by simp)]
/-- An op that is told is just its bytes. -/
theorem tkO_cut {bs : List UInt8} {base : Int} {p : Nat} (hp : p < bs.length) (h : (tkO bs base p).2.2 = 0) : bs.drop p = putO (tkO bs base p).1 ++ bs.drop (tkO bs base p).2.1 ∧ (tkO bs base p).2.1 ≤ bs.length := by
  unfold tkO at h ⊢
  split
  · rename_i h1
    rw [if_pos h1] at h
    have hb := byte_cut hp (b := 1) (by rw [h1]; rfl)
    obtain ⟨⟨f1, f2, f3⟩, hf⟩ : ∃ F, varO bs (p + 1) 0 4000 = F := ⟨_, rfl⟩
    rw [hf] at h ⊢
    simp only at h ⊢
    obtain ⟨⟨n1, n2, n3⟩, hn⟩ : ∃ F, varO bs f2 f3 4000 = F := ⟨_, rfl⟩
    rw [hn] at h ⊢
    unfold tkC at h ⊢
    simp only at h ⊢
    by_cases h2 : n3 = 0
    · subst h2
      rw [if_neg (by simp)] at h ⊢
      by_cases h3 : n1 = 0
      · rw [if_pos h3] at h; simp at h
      · rw [if_neg h3] at h ⊢
        by_cases h4 : (f1 : Int) ≤ base - n1
        · rw [if_pos h4]
          obtain ⟨g1, g2, g3⟩ := varO_cut hn
          subst g1
          obtain ⟨_, g5, g6⟩ := varO_cut hf
          simp only
          refine ⟨?_, g3 (g6 (by omega))⟩
          rw [hb, g5, g2, putO_copy]
          simp
        · rw [if_neg h4] at h; simp at h
    · rw [if_pos h2] at h; exact absurd h h2
  · rename_i h1
    rw [if_neg h1] at h
    split
    · rename_i h0
      rw [if_pos h0] at h
      have hb := byte_cut hp (b := 0) (by rw [h0]; rfl)
      obtain ⟨⟨n1, n2, n3⟩, hn⟩ : ∃ F, varO bs (p + 1) 0 4000 = F := ⟨_, rfl⟩
      rw [hn] at h ⊢
      unfold tkN at h ⊢
      simp only at h ⊢
      by_cases h2 : rawErr bs.length n2 n3 n1 = 0
      · rw [h2, if_neg (by simp)] at h
        rw [h2, if_neg (by simp)]
        by_cases h3 : n1 = 0
        · rw [if_pos h3] at h; simp at h
        · rw [if_neg h3]
          unfold rawErr at h2
          rw [if_neg (by omega)] at h2
          obtain ⟨g0, g1⟩ := hasErr_zero h2
          subst g0
          obtain ⟨_, g5, g6⟩ := varO_cut hn
          have g7 := g6 (by omega)
          have hr : rawB bs n2 0 n1 = (bs.drop n2).take n1 := by
            unfold rawB
            rw [if_neg (by omega), if_pos h2, Int.toNat_natCast]
          have ha : rawAt bs.length n2 0 n1 = n2 + n1 := by
            unfold rawAt stepAt
            rw [if_neg (by omega), Int.toNat_natCast, if_pos ⟨rfl, by omega⟩]
          simp only
          rw [hr, ha, putO_new, hb, g5]
          refine ⟨?_, by omega⟩
          have hl : ((bs.drop n2).take n1).length = n1 := by rw [List.length_take, List.length_drop]; omega
          rw [hl]
          simp only [List.cons_append, List.nil_append, List.append_assoc, List.cons.injEq, true_and, List.append_cancel_left_eq]
          rw [← List.drop_drop, List.take_append_drop]
      · rw [if_pos h2] at h; exact absurd h h2
    · rename_i h0
      rw [if_neg h0] at h
      simp at h
theorem rd_back {bs : List UInt8} {base : Int} : ∀ (f p : Nat) (left : Int) (os r : List DOp), p ≤ bs.length → bs.length ≤ p + f → 0 ≤ left → rdO bs base f p left os = (r, 0) →
    ∃ new, r = os ++ new ∧ bs.drop p = new.flatMap putO ∧ restO base left new = some 0 := by
  intro f
  induction f with
  | zero =>
    intro p left os r hp hf hl h
    unfold rdO at h
    split at h
    · simp at h
    · injection h with h1 h2
      exact ⟨[], by simp [h1], by simp; omega, by simp [restO]; omega⟩
  | succ f ih =>
    intro p left os r hp hf hl h
    unfold rdO at h
    split at h
    · rename_i hlt
      split at h
      · rename_i he
        injection h with h1 h2
        exact absurd h2 he
      · rename_i he
        have he' : (tkO bs base p).2.2 = 0 := by simpa using he
        split at h
        · simp at h
        · rename_i hls
          obtain ⟨g1, g2, _⟩ := tkO_ok he'
          obtain ⟨g3, g4⟩ := tkO_cut hlt he'
          obtain ⟨new, k1, k2, k3⟩ := ih _ _ _ _ g4 (by omega) (by omega) h
          refine ⟨(tkO bs base p).1 :: new, by rw [k1]; simp, by rw [g3, k2]; simp, ?_⟩
          rw [restO_cons, if_pos ⟨g1, by omega⟩]
          exact k3
    · split at h
      · simp at h
      · injection h with h1 h2
        exact ⟨[], by simp [h1], by simp; omega, by simp [restO]; omega⟩
/-- What is read is put as the same bytes. -/
theorem readR_back {bs : List UInt8} {b t : Int} {os : List DOp} (h : readR bs = ((b, t, os), 0)) : chkS b t os = 0 ∧ putS b t os = bs := by
  unfold readR at h
  obtain ⟨⟨f1, f2, f3⟩, hf⟩ : ∃ F, varO bs 0 0 4000 = F := ⟨_, rfl⟩
  have m1 := varO_most bs 0 0 4000 (by omega)
  rw [hf] at h m1
  simp only at h m1
  obtain ⟨⟨n1, n2, n3⟩, hn⟩ : ∃ F, varO bs f2 f3 4000 = F := ⟨_, rfl⟩
  have m2 := varO_most bs f2 f3 4000 (by omega)
  rw [hn] at h m2
  unfold readT at h
  simp only at h m2
  by_cases h2 : n3 = 0
  · subst h2
    rw [if_neg (by simp)] at h
    obtain ⟨g1, g2, g3⟩ := varO_cut hn
    subst g1
    obtain ⟨_, g5, g6⟩ := varO_cut hf
    split at h
    · rename_i hD
      injection h with h1 _
      injection h1 with h3 h4
      injection h4 with h4 h5
      obtain ⟨new, k1, k2, k3⟩ := rd_back bs.length n2 n1 [] _ (g3 (g6 (by omega))) (by omega) (by omega) (show rdO bs f1 bs.length n2 n1 [] = ((restD bs f1 n2 n1 []).1, 0) from by rw [← hD]; rfl)
      rw [List.nil_append] at k1
      rw [h5] at k1
      subst k1
      subst h3; subst h4
      refine ⟨by unfold chkS; rw [if_pos ⟨⟨by omega, by omega⟩, ⟨by omega, by omega⟩, k3⟩], ?_⟩
      unfold putS
      rw [Int.toNat_natCast, Int.toNat_natCast, ← k2, List.append_assoc, ← g2, ← g5]
      rfl
    · rename_i hD
      injection h with _ h1
      exact absurd h1 hD
  · rw [if_pos h2] at h
    injection h with _ h1
    exact absurd h1 h2

/-- What is put is read again: an op. -/
theorem tkO_put {bs rest : List UInt8} {base : Int} {p : Nat} {o : DOp} (hp : p ≤ bs.length) (h : bs.drop p = putO o ++ rest) (ho : o.Right base) (hb : base ≤ 4000) (hs : o.size ≤ 4000) :
    p < bs.length ∧ tkO bs base p = (o, p + (putO o).length, 0) ∧ p + (putO o).length ≤ bs.length := by
  obtain ⟨q1, q2, q3, q4, q5⟩ := Right_nums ho hb hs
  have hle := (at_bytes h hp).2
  rcases ho with ⟨h1, h2, h3, h4, h5⟩ | ⟨h1, h2, h3, h4⟩
  · obtain ⟨cp, f, n, b⟩ := o
    simp only at h1 h2 h3 h4 h5 q1 q2 q3 q4 q5
    subst h1
    obtain rfl : b = [] := List.eq_nil_of_length_eq_zero h5
    obtain ⟨F, rfl⟩ := Int.eq_ofNat_of_zero_le q1
    obtain ⟨K, rfl⟩ := Int.eq_ofNat_of_zero_le q3
    have e : putO ⟨true, F, K, []⟩ = [1] ++ (varB F ++ varB K) := by rw [show (⟨true, F, K, []⟩ : DOp) = copyO F K from rfl, putO_copy]; simp
    rw [e] at h hle ⊢
    have h' : bs.drop p = [1] ++ (varB F ++ (varB K ++ rest)) := by rw [h]; simp
    have hlt : p < bs.length := by simp at hle; omega
    obtain ⟨b1, _, _⟩ := byte_fwd h' hp
    unfold byteAt at b1
    rw [if_pos rfl] at b1
    have d1 : bs.drop (p + 1) = varB F ++ (varB K ++ rest) := by rw [← List.drop_drop, h']; rfl
    have v1 := var_fwd (most := 4000) d1 (by omega) (by omega)
    have d2 : bs.drop (p + 1 + (varB F).length) = varB K ++ rest := by rw [← List.drop_drop, d1, List.drop_left]
    have v2 := var_fwd (most := 4000) d2 (by omega) (by omega)
    refine ⟨hlt, ?_, hle⟩
    unfold tkO
    rw [b1, if_pos (by decide), v1]
    simp only
    rw [v2]
    unfold tkC
    rw [if_neg (by simp), if_neg (by simp only; omega), if_pos (by simp only; omega)]
    simp [copyO]
    omega
  · obtain ⟨cp, f, n, b⟩ := o
    simp only at h1 h2 h3 h4 q5
    subst h1; subst h3; subst h4
    have e : putO ⟨false, 0, 0, b⟩ = [0] ++ (varB b.length ++ b) := by rw [show (⟨false, 0, 0, b⟩ : DOp) = newO b from rfl, putO_new]; simp
    rw [e] at h hle ⊢
    have h' : bs.drop p = [0] ++ (varB b.length ++ (b ++ rest)) := by rw [h]; simp
    have hlt : p < bs.length := by simp at hle; omega
    obtain ⟨b1, _, _⟩ := byte_fwd h' hp
    unfold byteAt at b1
    rw [if_pos rfl] at b1
    have d1 : bs.drop (p + 1) = varB b.length ++ (b ++ rest) := by rw [← List.drop_drop, h']; rfl
    have v1 := var_fwd (most := 4000) d1 (by omega) (by omega)
    have d2 : bs.drop (p + 1 + (varB b.length).length) = b ++ rest := by rw [← List.drop_drop, d1, List.drop_left]
    have hle2 : p + 1 + (varB b.length).length ≤ bs.length := by simp at hle; omega
    obtain ⟨r1, r2, r3⟩ := raw_fwd d2 hle2
    refine ⟨hlt, ?_, hle⟩
    unfold tkO
    rw [b1, if_neg (by decide), if_pos (by decide), v1]
    unfold tkN
    simp only
    rw [r1, r2, r3, if_neg (by simp), if_neg (by omega)]
    simp [newO]
    omega
theorem rd_put {bs : List UInt8} {base : Int} (hb : base ≤ 4000) : ∀ (new : List DOp) (f p : Nat) (left : Int) (os : List DOp), p ≤ bs.length → bs.length ≤ p + f → left ≤ 4000 → bs.drop p = new.flatMap putO → restO base left new = some 0 →
    rdO bs base f p left os = (os ++ new, 0) := by
  intro new
  induction new with
  | nil =>
    intro f p left os hp hf hl h hr
    simp [restO] at hr
    subst hr
    rw [rdO_end _ _ _ _ _ _ (by simpa using h)]
    simp
  | cons o new ih =>
    intro f p left os hp hf hl h hr
    rw [restO_cons] at hr
    split at hr
    · rename_i hc
      obtain ⟨g1, g2, g3⟩ := tkO_put (rest := new.flatMap putO) hp (by rw [h]; simp) hc.1 hb (by omega)
      cases f with
      | zero => omega
      | succ f =>
        unfold rdO
        rw [if_pos g1, g2, if_neg (by simp), if_neg (by simp only; omega)]
        simp only
        have hpos : 1 ≤ (putO o).length := by unfold putO; split <;> simp
        have hp1 := hc.1.pos
        rw [ih f (p + (putO o).length) (left - o.size) (os ++ [o]) g3 (by omega) (by omega) (by rw [← List.drop_drop, h]; simp) hr]
        simp
    · cases hr
/-- What is put is read again. -/
theorem readR_put {b t : Int} {os : List DOp} (h : chkS b t os = 0) : readR (putS b t os) = ((b, t, os), 0) := by
  obtain ⟨⟨hb0, hb1⟩, ⟨ht0, ht1⟩, hr⟩ := chkS_ok h
  obtain ⟨B, rfl⟩ := Int.eq_ofNat_of_zero_le hb0
  obtain ⟨T, rfl⟩ := Int.eq_ofNat_of_zero_le ht0
  obtain ⟨X, hX⟩ : ∃ X, putS B T os = X := ⟨_, rfl⟩
  have hX' : X = varB B ++ (varB T ++ os.flatMap putO) := by rw [← hX]; unfold putS; simp
  rw [hX]
  have d0 : X.drop 0 = varB B ++ (varB T ++ os.flatMap putO) := by rw [hX']; rfl
  have v1 := var_fwd (most := 4000) d0 (by omega) (by omega)
  rw [Nat.zero_add] at v1
  have d1 : X.drop (varB B).length = varB T ++ os.flatMap putO := by rw [hX', List.drop_left]
  have v2 := var_fwd (most := 4000) d1 (by omega) (by omega)
  have d2 : X.drop ((varB B).length + (varB T).length) = os.flatMap putO := by rw [← List.drop_drop, d1, List.drop_left]
  have hl : (varB B).length + (varB T).length ≤ X.length := by rw [hX']; simp
  have hrd := rd_put (bs := X) (base := B) hb1 os X.length ((varB B).length + (varB T).length) T [] hl (by omega) ht1 d2 hr
  have hrd' : restD X B ((varB B).length + (varB T).length) T [] = (os, 0) := hrd
  unfold readR
  rw [v1]
  simp only
  rw [v2]
  unfold readT
  rw [if_neg (by simp)]
  simp only
  rw [hrd', if_pos rfl]
end Go.Proofs.Ythjfkeploofblaa

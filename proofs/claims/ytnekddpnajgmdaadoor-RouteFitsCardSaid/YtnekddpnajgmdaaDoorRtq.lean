/- What is proved: whether a pattern stands for parts, by the document, which calls itself. Conditions: the lists are there, the texts are not too long for any machine. -/
import Derived.Test.YtnekddpnajgmdaaDoorRto
import Derived.Test.YtnekddpnajgmdaaDoorRtp
namespace Go.Proofs.YtnekddpnajgmdaaDoor
open Go.RowKit
set_option linter.unusedVariables false

/-! Pieces of a list of texts. -/
def tlS (A : Option Addr) (c m : Nat) : Option Addr := if c = m then A else A.map (·.add m)
theorem Lies.tlS {w : World} {A : Option Addr} {ps : List (List UInt8)} (h : Lies w A (strV ps)) (c m : Nat) (hc : ps.length ≤ c) : Lies w (tlS A c m) (strV (ps.drop m)) := by
  unfold Go.Proofs.YtnekddpnajgmdaaDoor.tlS
  split
  · rename_i e
    have hd : ps.drop m = [] := List.drop_of_length_le (by omega)
    rw [hd]
    exact .inl rfl
  · rcases h with h | ⟨b, o, rfl, hcl⟩
    · have : ps = [] := by
        have := congrArg List.length h
        rw [strV_len, List.length_nil] at this
        exact List.eq_nil_of_length_eq_zero this
      subst this
      exact .inl (by simp [strV])
    · refine .inr ⟨b, o + m, by simp [add_off], fun j u hu => ?_⟩
      rw [Nat.add_assoc]
      refine hcl (m + j) u ?_
      rw [strV, List.map_drop, List.getElem?_drop] at hu
      exact hu
theorem Lies.take {w : World} {A : Option Addr} {ps : List (List UInt8)} (h : Lies w A (strV ps)) (m : Nat) : Lies w A (strV (ps.take m)) := by
  rcases h with h | ⟨b, o, rfl, hcl⟩
  · left
    have : ps = [] := by
      have := congrArg List.length h
      rw [strV_len, List.length_nil] at this
      exact List.eq_nil_of_length_eq_zero this
    subst this
    simp [strV]
  · refine .inr ⟨b, o, rfl, fun j u hu => hcl j u ?_⟩
    rw [strV, List.map_take, List.getElem?_take] at hu
    split at hu
    · exact hu
    · cases hu
theorem size_strs (w : World) : (sizeOf (Tryd.prog.elem 25)).run Tryd.prog w = .ok 1 w := by kernel_rfl
theorem under_strs : Tryd.prog.underlying 25 = some (.slice (Tryd.prog.elem 25)) := by kernel_rfl
theorem slice_tlS (A : Option Addr) (n c m : Nat) (h : m ≤ n) (w : World) : (Instr.slice 25 (.slice A n c) (some (.int .i64 m)) none none).run Tryd.prog w = .ok (.slice (tlS A c m) (n - m) (c - m)) w := by
  have e := run_slice_l (P := Tryd.prog) w 25 A n c under_strs .i64 (m : Int) (by omega) (by omega)
  rw [e, size_strs]
  simp [sliced, tlS]
theorem slice_hdS (A : Option Addr) (hA : A = none ∨ ∃ b o, A = some ⟨b, o, none⟩) (n c m : Nat) (h : m ≤ c) (w : World) : (Instr.slice 25 (.slice A n c) none (some (.int .i64 m)) none).run Tryd.prog w = .ok (.slice A m c) w := by
  have e := run_slice_h (P := Tryd.prog) w 25 A n c under_strs .i64 (m : Int) (by omega) (by omega)
  rw [e, size_strs]
  rcases hA with rfl | ⟨b, o, rfl⟩ <;> simp [sliced, add_off]

theorem stand_nil (L : List (List UInt8)) : standB [] L = decide (L.length = 0) := by
  rw [standB, mat_nil, Bool.eq_iff_iff, List.isEmpty_iff, decide_eq_true_eq, List.length_eq_zero_iff]
theorem stand_star (P L : List (List UInt8)) : standB ([42, 42] :: P) L = (standB P L || (decide (0 < L.length) && standB ([42, 42] :: P) L.tail)) := mat_star_step (st := fun p : List UInt8 => p == [42, 42]) (by decide) P L
theorem stand_one (p : List UInt8) (hp : p ≠ [42, 42]) (P : List (List UInt8)) (x : List UInt8) (L : List (List UInt8)) : standB (p :: P) (x :: L) = (wordB p x && standB P L) := mat_one (st := fun p : List UInt8 => p == [42, 42]) (by simpa using hp) P x L
theorem stand_one_nil (p : List UInt8) (hp : p ≠ [42, 42]) (P : List (List UInt8)) : standB (p :: P) [] = false := mat_one_nil (st := fun p : List UInt8 => p == [42, 42]) (by simpa using hp) P

/-- Parts that are not too long. -/
def Small (P : List (List UInt8)) : Prop := P.length ≤ 900000 ∧ ∀ p ∈ P, p.length ≤ 900000
theorem Small.tail {p : List UInt8} {P : List (List UInt8)} (h : Small (p :: P)) : Small P := ⟨by have := h.1; simp at this; omega, fun q hq => h.2 q (by simp [hq])⟩
theorem Small.head {p : List UInt8} {P : List (List UInt8)} (h : Small (p :: P)) : p.length ≤ 900000 := h.2 p (by simp)
theorem lies_head {w w' : World} {A : Option Addr} {p : List UInt8} {P : List (List UInt8)} (h : Lies w A (strV (p :: P))) (f : Fr (fun _ => False) w w') : ∃ b o, A = some ⟨b, o, none⟩ ∧ w'.cell? ⟨b, o, none⟩ = some (.string (strB p)) := by
  obtain ⟨b, o, rfl, hc⟩ := lies_str h f 0 (by simp)
  exact ⟨b, o, rfl, hc⟩

/-- What stands says of shorter ones. -/
def StandsUpto (N : Nat) : Prop := ∀ (P L : List (List UInt8)) (A A' : Option Addr) (c c' : Nat) (w : World), P.length + L.length ≤ N → Small P → Small L → P.length ≤ c' → L.length ≤ c → Lies w A' (strV P) → Lies w A (strV L) →
  Calls Tryd.prog 47 #[.slice A' P.length c', .slice A L.length c] w fun e w' => e = .returned (.bool (standB P L)) ∧ Below w.heap.size w w'

set_option maxHeartbeats 3200000 in
theorem stands_none (L : List (List UInt8)) (A A' : Option Addr) (c c' : Nat) (w : World) (hL : Small L) :
    Calls Tryd.prog 47 #[.slice A' 0 c', .slice A L.length c] w fun e w' => e = .returned (.bool (standB [] L)) ∧ Below w.heap.size w w' := by
  have hs := Lib.hid (stand_nil L)
  have hl := hL.1
  obtain ⟨n, hn⟩ : ∃ n, L.length = n := ⟨_, rfl⟩
  rw [hn] at hs hl ⊢
  obtain ⟨r, hr⟩ : ∃ r, standB [] L = r := ⟨_, rfl⟩
  rw [hr] at hs ⊢
  clear hn hr hL
  go_enter Tryd.func47, Tryd.ntmps47
  by_cases h0 : n = 0
  · go_wp2
    go_ret
    exact ⟨by rw [hs.out, h0]; rfl, (Fr.refl (fun _ => False) w).below (fun _ _ e => e)⟩
  · have d0 : ((n : Int) == 0) = false := by simpa using h0
    go_wp2
    go_ret
    exact ⟨by rw [hs.out, decide_eq_false h0]; simp, (Fr.refl (fun _ => False) w).below (fun _ _ e => e)⟩

set_option maxHeartbeats 6400000 in
theorem stands_star (N : Nat) (ih : StandsUpto N) (P L : List (List UInt8)) (A A' : Option Addr) (c c' : Nat) (w : World) (hN : P.length + 1 + L.length ≤ N + 1) (hP : Small ([42, 42] :: P)) (hL : Small L) (hc' : P.length + 1 ≤ c') (hc : L.length ≤ c)
    (hl' : Lies w A' (strV ([42, 42] :: P))) (hl : Lies w A (strV L)) :
    Calls Tryd.prog 47 #[.slice A' (P.length + 1) c', .slice A L.length c] w fun e w' => e = .returned (.bool (standB ([42, 42] :: P) L)) ∧ Below w.heap.size w w' := by
  have c1 : Hid (∀ w', Fr (fun _ => False) w w' → Calls Tryd.prog 47 #[.slice (tlS A' c' 1) P.length (c' - 1), .slice A L.length c] w' fun e w'' => e = .returned (.bool (standB P L)) ∧ Below w'.heap.size w' w'') :=
    Lib.hid (fun w' f => ih P L _ _ _ _ w' (by omega) hP.tail hL (by omega) hc ((hl'.tlS c' 1 (by simpa using hc')).fr f (fun _ _ e => e)) (hl.fr f (fun _ _ e => e)))
  have hsl := slice_tlS A' (P.length + 1) c' 1 (by omega)
  rw [Nat.add_sub_cancel] at hsl
  have e1 : ((1 : Nat) : Int) = 1 := rfl
  rw [e1] at hsl
  obtain ⟨b, o, rfl, hcell⟩ := lies_head hl' (Fr.refl _ w)
  have hL42 := strB_list [42, 42]
  obtain ⟨S, hS⟩ : ∃ S, strB [42, 42] = S := ⟨_, rfl⟩
  rw [hS] at hcell hL42
  have HE := Lib.hid (stand_star P L)
  have hPn := hP.1
  rw [List.length_cons] at hPn
  have hLn := hL.1
  obtain ⟨A1, hA1⟩ : ∃ A1, tlS (some ⟨b, o, none⟩) c' 1 = A1 := ⟨_, rfl⟩
  rw [hA1] at c1 hsl
  obtain ⟨b1, hb1⟩ : ∃ x, standB P L = x := ⟨_, rfl⟩
  rw [hb1] at c1 HE
  clear hA1 hb1 hS
  cases b1
  · cases L with
    | nil =>
      have hr : Hid (standB ([42, 42] :: P) [] = false) := Lib.hid (by rw [HE.out]; rfl)
      obtain ⟨r, hr'⟩ : ∃ r, standB ([42, 42] :: P) [] = r := ⟨_, rfl⟩
      rw [hr'] at hr ⊢
      obtain ⟨n, hn⟩ : ∃ n, P.length = n := ⟨_, rfl⟩
      rw [hn] at c1 hsl hPn ⊢
      rw [List.length_nil] at c1 ⊢
      clear hr' HE hl hl' hP hL ih hN hc hc' hn hLn
      go_enter Tryd.func47, Tryd.ntmps47
      go_wp2_with (go_at_call 47; refine (c1.out _ (Fr.refl _ _)).mono ?_; rintro e w1 ⟨rfl, g1⟩)
      go_ret
      exact ⟨by rw [hr.out]; rfl, g1⟩
    | cons x L =>
      rw [List.length_cons] at hN hc
      have c2 : Hid (∀ w', Fr (fun _ => False) w w' → Calls Tryd.prog 47 #[.slice (some ⟨b, o, none⟩) (P.length + 1) c', .slice (tlS A c 1) L.length (c - 1)] w' fun e w'' => e = .returned (.bool (standB ([42, 42] :: P) L)) ∧ Below w'.heap.size w' w'') :=
        Lib.hid (fun w' f => ih ([42, 42] :: P) L _ _ _ _ w' (by rw [List.length_cons]; omega) hP hL.tail (by rw [List.length_cons]; exact hc') (by omega) (hl'.fr f (fun _ _ e => e)) ((hl.tlS c 1 (by rw [List.length_cons]; exact hc)).fr f (fun _ _ e => e)))
      have hsl2 := slice_tlS A (L.length + 1) c 1 (by omega)
      rw [Nat.add_sub_cancel, e1] at hsl2
      obtain ⟨A2, hA2⟩ : ∃ A1, tlS A c 1 = A1 := ⟨_, rfl⟩
      rw [hA2] at c2 hsl2
      rw [List.length_cons, decide_eq_true (show 0 < L.length + 1 by omega), Bool.false_or, Bool.true_and, List.tail_cons] at HE
      obtain ⟨r, hr'⟩ : ∃ r, standB ([42, 42] :: P) (x :: L) = r := ⟨_, rfl⟩
      obtain ⟨r2, hr2⟩ : ∃ r, standB ([42, 42] :: P) L = r := ⟨_, rfl⟩
      rw [hr', hr2] at HE
      rw [hr2] at c2
      rw [hr']
      obtain ⟨n, hn⟩ : ∃ n, P.length = n := ⟨_, rfl⟩
      rw [hn] at c1 c2 hsl hPn ⊢
      rw [List.length_cons] at c1 hLn ⊢
      obtain ⟨m, hm2⟩ : ∃ n, L.length = n := ⟨_, rfl⟩
      rw [hm2] at c1 c2 hsl2 hLn ⊢
      clear hr' hr2 hl hl' hP hL ih hN hc hc' hn hm2 hA2
      go_enter Tryd.func47, Tryd.ntmps47
      go_wp2_with (first
        | (have F1 := Fr.of_below (S := fun _ => False) g1
           go_at_call 47; refine (c2.out _ F1).mono ?_; rintro e w2 ⟨rfl, g2⟩)
        | (go_at_call 47; refine (c1.out _ (Fr.refl _ _)).mono ?_; rintro e w1 ⟨rfl, g1⟩))
      go_ret
      exact ⟨by rw [HE.out]; rfl, ((Fr.of_below (S := fun _ => False) g1).then_below g2).below (fun _ _ e => e)⟩
  · rw [Bool.true_or] at HE
    obtain ⟨r, hr'⟩ : ∃ r, standB ([42, 42] :: P) L = r := ⟨_, rfl⟩
    rw [hr'] at HE ⊢
    obtain ⟨n, hn⟩ : ∃ n, P.length = n := ⟨_, rfl⟩
    rw [hn] at c1 hsl hPn ⊢
    obtain ⟨m, hm2⟩ : ∃ n, L.length = n := ⟨_, rfl⟩
    rw [hm2] at c1 hLn ⊢
    clear hr' hl hl' hP hL ih hN hc hc' hn hm2
    go_enter Tryd.func47, Tryd.ntmps47
    go_wp2_with (go_at_call 47; refine (c1.out _ (Fr.refl _ _)).mono ?_; rintro e w1 ⟨rfl, g1⟩)
    go_ret
    exact ⟨by rw [HE.out]; rfl, g1⟩

set_option maxHeartbeats 6400000 in
theorem stands_one (N : Nat) (ih : StandsUpto N) (p : List UInt8) (hp : p ≠ [42, 42]) (P L : List (List UInt8)) (A A' : Option Addr) (c c' : Nat) (w : World) (hN : P.length + 1 + L.length ≤ N + 1) (hP : Small (p :: P)) (hL : Small L) (hc' : P.length + 1 ≤ c') (hc : L.length ≤ c)
    (hl' : Lies w A' (strV (p :: P))) (hl : Lies w A (strV L)) :
    Calls Tryd.prog 47 #[.slice A' (P.length + 1) c', .slice A L.length c] w fun e w' => e = .returned (.bool (standB (p :: P) L)) ∧ Below w.heap.size w w' := by
  have hq := strB_list p
  have hpe : (p == [42, 42]) = false := by simpa using hp
  cases L with
  | nil =>
    have hr : Hid (standB (p :: P) [] = false) := Lib.hid (stand_one_nil p hp P)
    obtain ⟨b, o, rfl, hcell⟩ := lies_head hl' (Fr.refl _ w)
    obtain ⟨S, hS⟩ : ∃ S, strB p = S := ⟨_, rfl⟩
    rw [hS] at hcell hq
    have hPn := hP.1
    rw [List.length_cons] at hPn
    obtain ⟨r, hr'⟩ : ∃ r, standB (p :: P) [] = r := ⟨_, rfl⟩
    rw [hr'] at hr ⊢
    obtain ⟨n, hn⟩ : ∃ n, P.length = n := ⟨_, rfl⟩
    rw [hn] at hPn ⊢
    rw [List.length_nil]
    clear hr' hl hl' hP hL ih hN hc hc' hn hS
    go_enter Tryd.func47, Tryd.ntmps47
    go_wp2_with fail
    go_quiet (fail)
    go_wp2
    go_ret
    exact ⟨by rw [hr.out]; rfl, ((Fr.refl (fun _ => False) w).drewN nq).below (fun _ _ e => e)⟩
  | cons x L =>
    rw [List.length_cons] at hN hc
    have HE := Lib.hid (stand_one p hp P x L)
    have c1 := Lib.hid (fun w => QrWord_any p x hP.head hL.head w)
    have c2 : Hid (∀ w', Fr (fun _ => False) w w' → Calls Tryd.prog 47 #[.slice (tlS A' c' 1) P.length (c' - 1), .slice (tlS A c 1) L.length (c - 1)] w' fun e w'' => e = .returned (.bool (standB P L)) ∧ Below w'.heap.size w' w'') :=
      Lib.hid (fun w' f => ih P L _ _ _ _ w' (by omega) hP.tail hL.tail (by omega) (by omega) ((hl'.tlS c' 1 (by simpa using hc')).fr f (fun _ _ e => e)) ((hl.tlS c 1 (by rw [List.length_cons]; exact hc)).fr f (fun _ _ e => e)))
    have e1 : ((1 : Nat) : Int) = 1 := rfl
    have hsl := slice_tlS A' (P.length + 1) c' 1 (by omega)
    rw [Nat.add_sub_cancel, e1] at hsl
    have hsl2 := slice_tlS A (L.length + 1) c 1 (by omega)
    rw [Nat.add_sub_cancel, e1] at hsl2
    have hcA : ∃ b o, A' = some ⟨b, o, none⟩ ∧ ∀ q : Later w, q.w'.cell? ⟨b, o, none⟩ = some (.string (strB p)) := by
      obtain ⟨b, o, e, _⟩ := lies_head hl' (Fr.refl _ w)
      refine ⟨b, o, e, fun q => ?_⟩
      obtain ⟨b', o', e', h⟩ := lies_head hl' q.fr
      rw [e] at e'
      injection e' with e'
      injection e' with e1 e2
      subst e1; subst e2
      exact h
    have hcB : ∃ b o, A = some ⟨b, o, none⟩ ∧ ∀ q : Later w, q.w'.cell? ⟨b, o, none⟩ = some (.string (strB x)) := by
      obtain ⟨b, o, e, _⟩ := lies_head hl (Fr.refl _ w)
      refine ⟨b, o, e, fun q => ?_⟩
      obtain ⟨b', o', e', h⟩ := lies_head hl q.fr
      rw [e] at e'
      injection e' with e'
      injection e' with e1 e2
      subst e1; subst e2
      exact h
    obtain ⟨b, o, rfl, hcell⟩ := hcA
    obtain ⟨b', o', rfl, hcell'⟩ := hcB
    obtain ⟨S, hS⟩ : ∃ S, strB p = S := ⟨_, rfl⟩
    obtain ⟨T, hT⟩ : ∃ S, strB x = S := ⟨_, rfl⟩
    rw [hS] at hcell hq c1
    rw [hT] at hcell' c1
    have hcell0 := hcell ⟨w, Fr.refl _ w⟩
    simp only at hcell0
    have hPn := hP.1
    rw [List.length_cons] at hPn
    have hLn := hL.1
    rw [List.length_cons] at hLn
    obtain ⟨A1, hA1⟩ : ∃ A1, tlS (some ⟨b, o, none⟩) c' 1 = A1 := ⟨_, rfl⟩
    obtain ⟨A2, hA2⟩ : ∃ A1, tlS (some ⟨b', o', none⟩) c 1 = A1 := ⟨_, rfl⟩
    rw [hA1] at c2 hsl
    rw [hA2] at c2 hsl2
    obtain ⟨r1, hr1⟩ : ∃ r, standB (p :: P) (x :: L) = r := ⟨_, rfl⟩
    obtain ⟨r2, hr2⟩ : ∃ r, standB P L = r := ⟨_, rfl⟩
    obtain ⟨r3, hr3⟩ : ∃ r, wordB p x = r := ⟨_, rfl⟩
    rw [hr1, hr2, hr3] at HE
    rw [hr2] at c2
    rw [hr3] at c1
    rw [hr1, List.length_cons]
    obtain ⟨n, hn⟩ : ∃ n, P.length = n := ⟨_, rfl⟩
    rw [hn] at c2 hsl hPn ⊢
    obtain ⟨m, hm2⟩ : ∃ n, L.length = n := ⟨_, rfl⟩
    rw [hm2] at c2 hsl2 hLn ⊢
    have hi : (0 : Int) < (m : Int) + 1 := by omega
    have hd : decide ((0 : Int) < (m : Int) + 1) = true := decide_eq_true hi
    clear hr1 hr2 hr3 hl hl' hP hL ih hN hc hc' hn hm2 hA1 hA2 hS hT e1
    go_enter Tryd.func47, Tryd.ntmps47
    cases r3
    · go_wp2_with fail
      refine wp_region_later (w0 := w) (Fr.refl _ _) (by kernel_rfl) (by kernel_rfl) ?_
      repeat (quiet_step ((go_at_call 61; refine Calls.later_of (c1.out _))))
      refine wpQuiet_nil ?_
      intro _ hw'
      obtain ⟨q, hw''⟩ := hw'
      subst hw''
      go_wp2_with fail
      go_ret
      exact ⟨by rw [HE.out]; rfl, q.fr.below (fun _ _ e => e)⟩
    · go_wp2_with fail
      refine wp_region_later (w0 := w) (Fr.refl _ _) (by kernel_rfl) (by kernel_rfl) ?_
      repeat (quiet_step (first
        | (go_at_call 47; refine Calls.later_of (c2.out _ (Later.fr _)))
        | (go_at_call 61; refine Calls.later_of (c1.out _))))
      refine wpQuiet_nil ?_
      intro _ hw'
      obtain ⟨q, hw''⟩ := hw'
      subst hw''
      go_wp2_with fail
      go_ret
      exact ⟨by rw [HE.out]; rfl, q.fr.below (fun _ _ e => e)⟩

theorem stands_all : ∀ N, StandsUpto N
  | 0 => fun P L A A' c c' w hN hP hL hc' hc hl' hl => by
    cases P with
    | nil => exact stands_none L A A' c c' w hL
    | cons p P => rw [List.length_cons] at hN; omega
  | N + 1 => fun P L A A' c c' w hN hP hL hc' hc hl' hl => by
    cases P with
    | nil => exact stands_none L A A' c c' w hL
    | cons p P =>
      rw [List.length_cons] at hN hc' ⊢
      by_cases hp : p = [42, 42]
      · subst hp
        exact stands_star N (stands_all N) P L A A' c c' w hN hP hL hc' hc hl' hl
      · exact stands_one N (stands_all N) p hp P L A A' c c' w hN hP hL hc' hc hl' hl
theorem Qrstands_any (P L : List (List UInt8)) (A A' : Option Addr) (c c' : Nat) (w : World) (hP : Small P) (hL : Small L) (hc' : P.length ≤ c') (hc : L.length ≤ c) (hl' : Lies w A' (strV P)) (hl : Lies w A (strV L)) :
    Calls Tryd.prog 47 #[.slice A' P.length c', .slice A L.length c] w fun e w' => e = .returned (.bool (standB P L)) ∧ Below w.heap.size w w' :=
  stands_all _ P L A A' c c' w (Nat.le_refl _) hP hL hc' hc hl' hl
theorem Small.prt {l : List UInt8} (h : l.length ≤ 300000) : Small (prt l) := ⟨by have := prt_len l; omega, fun p hp => by
  obtain ⟨i, hi, rfl⟩ := List.getElem_of_mem hp
  have := part_small l i hi
  rw [List.getD_eq_getElem?_getD, List.getElem?_eq_getElem hi, Option.getD_some] at this
  omega⟩
theorem Small.take {P : List (List UInt8)} (h : Small P) (n : Nat) : Small (P.take n) := ⟨by rw [List.length_take]; have := h.1; omega, fun p hp => h.2 p (List.mem_of_mem_take hp)⟩
/-- The document's Parts, and where they lie. -/
theorem QrParts_addr (l : List UInt8) (hl : l.length ≤ 900000) (w : World) : Calls Tryd.prog 19 #[.string (strB l)] w fun e w' =>
    ∃ A c, e = .returned (.slice A (prt l).length c) ∧ (prt l).length ≤ c ∧ (A = none ∨ ∃ b o, A = some ⟨b, o, none⟩) ∧ Lies w' A (strV (prt l)) ∧ Below w.heap.size w w' := by
  by_cases h : l = []
  · have hL := strB_list l
    have e1 : prt l = [] := by rw [prt, if_pos h]
    rw [e1]
    obtain ⟨S, hS⟩ : ∃ S, strB l = S := ⟨_, rfl⟩
    rw [hS] at hL ⊢
    clear e1 hS
    go_enter Tryd.func19, Tryd.ntmps19
    go_wp2
    go_ret
    exact ⟨none, 0, rfl, Nat.le_refl _, .inl rfl, .inl rfl, (Fr.refl (fun _ => False) w).below (fun _ _ e => e)⟩
  · refine (QrParts_any l hl w).mono fun e w' ⟨A, c, h1, h2, h3, h4⟩ => ⟨A, c, h1, h2, ?_, h3, h4⟩
    have hp : 0 < (prt l).length := by rw [prt_of h]; exact List.length_pos_iff.2 (spl_ne l)
    obtain ⟨b, o, e, _⟩ := lies_str h3 (Fr.refl _ w') 0 hp
    exact .inr ⟨b, o, e⟩
end Go.Proofs.YtnekddpnajgmdaaDoor

/- What is proved: a filter's bits, whether a filter has a key, by the document. Conditions: the cells are there. -/
import Derived.Test.YtgmohgofcjemkaaNb
namespace Go.Proofs.Ytgmohgofcjemkaa
open Go.RowKit Go.Shelf
set_option linter.unusedVariables false

/-- Is the n-th bit of a filter 1? -/
def bitB (f : List UInt8) (n : Nat) : Bool := decide ((f.getD (n / 8) 0).toNat / 2 ^ (n % 8) % 2 = 1)
/-- Has a filter a key? -/
def hasB (f : List UInt8) (key : List UInt8) : Bool := f == [] || (plL key (8 * f.length)).all (bitB f)
theorem Whole.frozenN {w : World} {g : Nat} {t : TypeId} {cs : Array Value} (h : Whole w g t cs) (i : Nat) : w.frozen? ⟨g, i, none⟩ = false := by
  unfold Whole at h
  simp [World.frozen?, h]
theorem lies_u8 {w w' : World} {A : Option Addr} {l : List UInt8} (h : Lies w A (bytesV l)) (f : Fr (fun _ => False) w w') (k : Nat) (hk : k < l.length) : ∃ b o, A = some ⟨b, o, none⟩ ∧ w'.cell? ⟨b, o + k, none⟩ = some (.int .u8 ((l.getD k 0).toNat : Nat)) := by
  have e : (bytesV l)[k]? = some (.int .u8 ((l.getD k 0).toNat : Nat)) := by
    unfold bytesV
    rw [List.getElem?_map, List.getElem?_eq_getElem hk, List.getD_eq_getElem?_getD, List.getElem?_eq_getElem hk]; rfl
  rcases h with h | ⟨b, o, rfl, hc⟩
  · rw [h] at e; simp at e
  · exact ⟨b, o, rfl, f.cell (hc k _ e) (fun e => e)⟩

set_option maxHeartbeats 1600000 in
set_option maxRecDepth 100000 in
theorem QbBit_any (A : Option Addr) (c : Nat) (f : List UInt8) (n : Nat) (hf : f.length ≤ 100000000) (hn : n < 8 * f.length) (w : World) (h : Lies w A (bytesV f)) :
    Calls Try.prog 14 #[.slice A f.length c, .int .i64 n] w fun e w' => e = .returned (.bool (bitB f n)) ∧ w = w' := by
  obtain ⟨b, o, rfl, hc⟩ := lies_u8 h (Fr.refl _ w) (n / 8) (by omega)
  have HV : Hid (bitB f n = decide ((f.getD (n / 8) 0).toNat / 2 ^ (n % 8) % 2 = 1)) := Lib.hid rfl
  obtain ⟨V, hV⟩ : ∃ V, bitB f n = V := ⟨_, rfl⟩
  rw [hV] at HV ⊢
  obtain ⟨x, hx⟩ : ∃ x, (f.getD (n / 8) 0).toNat = x := ⟨_, rfl⟩
  have hx256 : x < 256 := by rw [← hx]; exact (f.getD (n / 8) 0).toNat_lt
  rw [hx] at hc HV
  obtain ⟨L, hL⟩ : ∃ L, f.length = L := ⟨_, rfl⟩
  rw [hL] at hn hf ⊢
  obtain ⟨m, hm⟩ : ∃ m, n / 8 = m := ⟨_, rfl⟩
  obtain ⟨r, hr⟩ : ∃ r, n % 8 = r := ⟨_, rfl⟩
  have hq : (n : Int) / 8 = (m : Int) := by omega
  have hq2 : (n : Int).tdiv 8 = (m : Int) := by rw [Int.tdiv_eq_ediv_of_nonneg (by omega)]; exact hq
  have hr1 : (n : Int) % 8 = (r : Int) := by omega
  have hr2 : (n : Int).tmod 8 = (r : Int) := by rw [Int.tmod_eq_emod_of_nonneg (by omega)]; exact hr1
  have hmL : (m : Int) < (L : Int) := by omega
  have hm0 : (0 : Int) ≤ (m : Int) := by omega
  rw [hm] at hc
  rw [hr] at HV
  have HR8 := Lib.hid (show r < 8 by omega)
  have HVe := Lib.hid HV.out
  clear h hV hx hL hm hr HV hn
  go_enter Try.func14, Try.ntmps14
  go_wp2
  go_loopg [5, 6] r (fun kx s5 s6 wr => ∃ (k y : Nat), s6 = .int .i64 k ∧ s5 = .int .i64 y ∧ k ≤ r ∧ r - k ≤ kx ∧ y < 256 ∧ w = wr ∧ Hid (y = x / 2 ^ k))
  case atStart => exact ⟨0, x, rfl, rfl, by omega, by omega, hx256, rfl, Lib.hid (by simp)⟩
  case round =>
    obtain ⟨k, y, rfl, rfl, hk, hkx, hy, rfl, HY⟩ := hrel
    have hr8 := HR8.out
    have wk := wrap_nat1 k (by omega)
    by_cases hlt : k < r
    · have hltz : (k : Int) < (r : Int) := by omega
      obtain ⟨z, hz⟩ : ∃ z, y / 2 = z := ⟨_, rfl⟩
      have hy2 : (y : Int) / 2 = (z : Int) := by omega
      have hy3 : (y : Int).tdiv 2 = (z : Int) := by rw [Int.tdiv_eq_ediv_of_nonneg (by omega)]; exact hy2
      have HZ := Lib.hid (show z = x / 2 ^ (k + 1) from by rw [← hz, HY.out, Nat.pow_succ, Nat.div_div_eq_div_mul])
      have hz256 : z < 256 := by omega
      clear hz
      go_wp2
      go_roundg (r - (k + 1))
      case measure => omega
      case rel => exact ⟨k + 1, z, by go_num, by go_num, by omega, Nat.le_refl _, hz256, rfl, HZ⟩
    · obtain rfl : k = r := by omega
      have HB := Lib.hid (show V = decide (y % 2 = 1) from by rw [HVe.out, HY.out])
      by_cases hy1 : y % 2 = 1
      · have HE := Lib.hid (show V = true from by rw [HB.out]; exact decide_eq_true hy1)
        have hz1 : (y : Int) % 2 = 1 := by omega
        have hz2 : (y : Int).tmod 2 = 1 := by rw [Int.tmod_eq_emod_of_nonneg (by omega)]; exact hz1
        go_wp2
        go_ret
        exact ⟨by rw [HE.out]; rfl, rfl⟩
      · have HE := Lib.hid (show V = false from by rw [HB.out]; exact decide_eq_false hy1)
        have hz1 : (y : Int) % 2 = 0 := by omega
        have hz2 : (y : Int).tmod 2 = 0 := by rw [Int.tmod_eq_emod_of_nonneg (by omega)]; exact hz1
        go_wp2
        go_ret
        exact ⟨by rw [HE.out]; rfl, rfl⟩
theorem all_get {p : Nat → Bool} {l : List Nat} (h : ∀ k, k < l.length → p (l.getD k 0) = true) : l.all p = true := by
  rw [List.all_eq_true]
  intro x hx
  obtain ⟨k, hk, rfl⟩ := List.getElem_of_mem hx
  have := h k hk
  rwa [List.getD_eq_getElem?_getD, List.getElem?_eq_getElem hk] at this
theorem all_not {p : Nat → Bool} {l : List Nat} {k : Nat} (hk : k < l.length) (h : p (l.getD k 0) = false) : l.all p = false := by
  rw [List.all_eq_false]
  refine ⟨l[k], List.getElem_mem hk, ?_⟩
  rw [List.getD_eq_getElem?_getD, List.getElem?_eq_getElem hk, Option.getD_some] at h
  simp [h]

set_option maxHeartbeats 1600000 in
set_option maxRecDepth 100000 in
theorem QbHas_any (A : Option Addr) (c : Nat) (f : List UInt8) (key : List UInt8) (hf : f.length ≤ 100000000) (hk : key.length ≤ 4611686018427387904) (w : World) (h : Lies w A (bytesV f)) :
    Calls Try.prog 16 #[.slice A f.length c, .string (strB key)] w fun e w' => e = .returned (.bool (hasB f key)) ∧ Fr (fun _ => False) w w' := by
  by_cases h0 : f.length = 0
  · have HE : Hid (hasB f key = true) := Lib.hid (by unfold hasB; rw [List.eq_nil_of_length_eq_zero h0]; rfl)
    rw [HE.out, h0]
    obtain ⟨S, hS⟩ : ∃ S, strB key = S := ⟨_, rfl⟩
    rw [hS]
    clear h hS HE h0 hf
    go_enter Try.func16, Try.ntmps16
    go_wp2
    go_ret
    exact ⟨rfl, Fr.refl _ _⟩
  · have HP := Lib.hid (fun w => QbPlaces_any key (8 * f.length) hk (by omega) (by omega) w)
    have HB := Lib.hid (fun n (hn : n < 8 * f.length) w' (q : Fr (fun _ => False) w w') => QbBit_any A c f n hf hn w' (h.fr q (fun _ _ e => e)))
    have HV : Hid (hasB f key = (plL key (8 * f.length)).all (bitB f)) := Lib.hid (by
      unfold hasB
      rw [show (f == []) = false from by cases f with | nil => simp at h0 | cons a f => rfl, Bool.false_or])
    have HLt : Hid (∀ k, k < 7 → (plL key (8 * f.length)).getD k 0 < 8 * f.length) := Lib.hid (fun k hk => by
      unfold plL
      rw [plT_get _ _ _ _ _ hk]
      exact (plI_nat _ _ _ _ (by omega)).2)
    have HLn : Hid ((plL key (8 * f.length)).length = 7) := Lib.hid (by unfold plL; exact plT_len _ _ _ _)
    obtain ⟨p, hp⟩ : ∃ p, bitB f = p := ⟨_, rfl⟩
    obtain ⟨V, hV⟩ : ∃ V, hasB f key = V := ⟨_, rfl⟩
    rw [hp] at HV HB
    rw [hV] at HV ⊢
    obtain ⟨l, hl⟩ : ∃ l, plL key (8 * f.length) = l := ⟨_, rfl⟩
    rw [hl] at HP HV HLt HLn
    have HAll := Lib.hid (fun hh => all_get (p := p) (l := l) hh)
    have HNot := Lib.hid (fun k hk hh => all_not (p := p) (l := l) (k := k) hk hh)
    rw [HLn.out] at HAll HNot
    rw [← HV.out] at HAll
    have HNot2 := Lib.hid (fun k hk hh => show V = false from by rw [HV.out]; exact HNot.out k hk hh)
    obtain ⟨S, hS⟩ : ∃ S, strB key = S := ⟨_, rfl⟩
    obtain ⟨L, hL⟩ : ∃ L, f.length = L := ⟨_, rfl⟩
    rw [hS, hL] at HP
    rw [hL] at HB HLt h0 hf
    rw [hS, hL]
    have hz0 : ¬ (L : Int) = 0 := by omega
    have hbz : ((L : Int) == 0) = false := by simpa using hz0
    have hw8 : IntKind.i64.wrap (8 * (L : Int)) = ((8 * L : Nat) : Int) := by rw [IntKind.wrap_i64]; omega
    have hw8b : wrap64 (8 * (L : Int)) = ((8 * L : Nat) : Int) := by unfold wrap64; omega
    obtain ⟨M, hM⟩ : ∃ M, 8 * L = M := ⟨_, rfl⟩
    rw [hM] at HP HB HLt hw8 hw8b
    clear h hp hV hl hS hL HV HNot h0 hM
    go_enter Try.func16, Try.ntmps16
    go_wp2_with (go_at_call 24; refine (HP.out _).mono ?_; rintro e w1 ⟨v1, rfl, ho⟩; obtain ⟨A1, d1, hv1, _, _, _, hl1⟩ := ho.shape; rw [HLn.out] at hv1; subst hv1; have HL1 := Lib.hid (fun w' (q : Fr (fun _ => False) w1 w') k hk => lies_nat hl1 q k hk); have HF1 := Lib.hid ho.2; clear ho hl1)
    rw [HLn.out] at HL1
    go_loopg [6] 7 (fun kx s6 wr => ∃ k : Nat, s6 = .int .i64 k ∧ k ≤ 7 ∧ 7 - k ≤ kx ∧ w1 = wr ∧ Hid (∀ j, j < k → p (l.getD j 0) = true))
    case atStart => exact ⟨0, rfl, by omega, by omega, rfl, Lib.hid (fun j hj => by omega)⟩
    case round =>
      obtain ⟨k, rfl, hk7, hkx, rfl, HJ⟩ := hrel
      have wk := wrap_nat1 k (by omega)
      by_cases hlt : k < 7
      · have hltz : (k : Int) < 7 := by omega
        have hk0 : (0 : Int) ≤ (k : Int) := by omega
        obtain ⟨b2, o2, hB2, cx⟩ := HL1.out w1 (Fr.refl _ _) k hlt
        subst hB2
        have HBk := Lib.hid (HB.out (l.getD k 0) (HLt.out k hlt) w1 HF1.out)
        have HNk := Lib.hid (HNot2.out k hlt)
        have HJk := Lib.hid (fun hh => show ∀ j, j < k + 1 → p (l.getD j 0) = true from fun j hj => (by omega : j < k ∨ j = k).elim (HJ.out j) (fun e => by rw [e]; exact hh))
        obtain ⟨x, hx⟩ : ∃ x, l.getD k 0 = x := ⟨_, rfl⟩
        rw [hx] at cx HBk HNk HJk
        obtain ⟨b, hb⟩ : ∃ b, p x = b := ⟨_, rfl⟩
        rw [hb] at HBk HNk HJk
        clear hx hb
        cases b
        · have HE := Lib.hid (HNk.out rfl)
          go_wp2_with (go_at_call 14; refine HBk.out.mono ?_; rintro e w2 ⟨rfl, rfl⟩)
          go_ret
          exact ⟨by rw [HE.out]; rfl, HF1.out⟩
        · have HJ2 := Lib.hid (HJk.out rfl)
          go_wp2_with (go_at_call 14; refine HBk.out.mono ?_; rintro e w2 ⟨rfl, rfl⟩)
          go_roundg (7 - (k + 1))
          case measure => omega
          case rel => exact ⟨k + 1, by go_num, by omega, Nat.le_refl _, rfl, HJ2⟩
      · obtain rfl : k = 7 := by omega
        have HE := Lib.hid (HAll.out HJ.out)
        go_wp2
        go_ret
        exact ⟨by rw [HE.out]; rfl, HF1.out⟩
end Go.Proofs.Ytgmohgofcjemkaa

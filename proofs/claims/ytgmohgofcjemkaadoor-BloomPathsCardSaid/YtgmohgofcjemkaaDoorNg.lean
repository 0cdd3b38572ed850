/- What is proved: the program's hash of a text is the document's. Conditions: a seed of 32 bits; a text of at most 2^62 bytes. -/
import Derived.Test.YtgmohgofcjemkaaDoorNa
namespace Go.Proofs.YtgmohgofcjemkaaDoor
open Go.RowKit Go.Shelf
set_option linter.unusedVariables false

theorem Rot_any (x : Int) (n : Nat) (h1 : 1 ≤ n) (h2 : n < 32) (w : World) :
    Calls Tryd.prog 23 #[.int .u32 x, .int .i64 n] w fun e w' => e = .returned (.int .u32 (rotL x n)) ∧ w = w' := by
  obtain ⟨s, hs⟩ : ∃ s : Int, (n : Int) = s := ⟨_, rfl⟩
  have ha : bits .and .u64 s 31 = s := by
    rw [u64_and s 31 (by omega) (by omega) (by omega) (by omega)]
    have e : s.toNat &&& 31 = s.toNat % 2 ^ 5 := Nat.and_two_pow_sub_one_eq_mod s.toNat 5
    show ((s.toNat &&& 31 : Nat) : Int) = _
    rw [e]; omega
  rw [hs]
  have hs0 : 0 ≤ s := by omega
  have hs1 : s ≤ 32 := by omega
  have hsw : IntKind.u64.wrap s = s := by rw [IntKind.wrap_u64]; omega
  have hs2 : IntKind.u64.wrap (32 - s) = 32 - s := by rw [IntKind.wrap_u64]; omega
  have hs3 : 0 ≤ 32 - s := by omega
  have hs4 : 32 - s ≤ 32 := by omega
  have e1 : s.toNat = n := by omega
  have e2 : (32 - s).toNat = 32 - n := by omega
  clear hs
  go_enter Tryd.func23, Tryd.ntmps23
  go_wp2
  go_ret
  exact ⟨rfl, rfl⟩
theorem Spread_any (k : Int) (w : World) : Calls Tryd.prog 24 #[.int .u32 k] w fun e w' => e = .returned (.int .u32 (mixI k)) ∧ w = w' := by
  have HL := Lib.hid (fun w => Rot_any (mul32 k 3432918353) 15 (by omega) (by omega) w)
  have HE : Hid (mul32 (rotL (mul32 k 3432918353) 15) 461845907 = mixI k) := Lib.hid rfl
  go_enter Tryd.func24, Tryd.ntmps24
  go_wp2_with (go_at_call 23; refine (HL.out _).mono ?_; rintro e w' ⟨rfl, rfl⟩)
  go_ret
  exact ⟨rfl, rfl⟩
theorem leI_app : ∀ (l : List UInt8) (b : UInt8), l.length ≤ 3 → leI (l ++ [b]) = leI l + (b.toNat : Int) * 2 ^ (8 * l.length) ∧ 0 ≤ leI l ∧ leI l < 2 ^ (8 * l.length)
  | [], b, _ => by
    have := b.toNat_lt
    simp [leI]
  | a :: l, b, h => by
    have hl : l.length ≤ 3 := by simp at h; omega
    obtain ⟨i1, i2, i3⟩ := leI_app l b hl
    have hl2 : l.length ≤ 2 := by simp at h; omega
    have ha := a.toNat_lt
    have hb := b.toNat_lt
    have ep : (2 : Int) ^ (8 * (a :: l).length) = 2 ^ (8 * l.length) * 256 := by
      rw [List.length_cons, show 8 * (l.length + 1) = 8 * l.length + 8 from by omega, Int.pow_add]; rfl
    have hp : (2 : Int) ^ (8 * l.length) ≤ 65536 := by
      rcases Nat.lt_or_ge l.length 1 with h0 | h0
      · rw [show l.length = 0 from by omega]; decide
      · rcases Nat.lt_or_ge l.length 2 with h1 | h1
        · rw [show l.length = 1 from by omega]; decide
        · rw [show l.length = 2 from by omega]; decide
    have hp0 : (0 : Int) < 2 ^ (8 * l.length) := Int.pow_pos (by decide)
    rw [ep]
    obtain ⟨P, hP⟩ : ∃ P : Int, (2 : Int) ^ (8 * l.length) = P := ⟨_, rfl⟩
    rw [hP] at i1 i3 hp hp0 ⊢
    have e1 : leI (a :: l ++ [b]) = leI (l ++ [b]) * 256 % 4294967296 + a.toNat := rfl
    have e2 : leI (a :: l) = leI l * 256 % 4294967296 + a.toNat := rfl
    rw [e1, e2, i1]
    obtain ⟨q, hq⟩ : ∃ q : Int, (b.toNat : Int) * P = q := ⟨_, rfl⟩
    have hq0 : 0 ≤ q := by rw [← hq]; exact Int.mul_nonneg (by omega) (by omega)
    have hq1 : q ≤ 255 * 65536 := by
      rw [← hq]
      exact Int.mul_le_mul (by omega) hp (by omega) (by omega)
    have hq2 : (b.toNat : Int) * (P * 256) = q * 256 := by rw [← hq, Int.mul_assoc]
    rw [hq2, hq]
    omega
theorem leI_range (l : List UInt8) (h : l.length ≤ 4) : 0 ≤ leI l ∧ leI l < 4294967296 := by
  match l, h with
  | [], _ => decide
  | a :: l, h =>
    have ha := a.toNat_lt
    have e2 : leI (a :: l) = leI l * 256 % 4294967296 + a.toNat := rfl
    rw [e2]
    have hl : l.length ≤ 3 := by simp at h; omega
    obtain ⟨_, i2, i3⟩ := leI_app l 0 hl
    have hp : (2 : Int) ^ (8 * l.length) ≤ 16777216 := by
      rcases Nat.lt_or_ge l.length 1 with h0 | h0
      · rw [show l.length = 0 from by omega]; decide
      · rcases Nat.lt_or_ge l.length 2 with h1 | h1
        · rw [show l.length = 1 from by omega]; decide
        · rcases Nat.lt_or_ge l.length 3 with h2 | h2
          · rw [show l.length = 2 from by omega]; decide
          · rw [show l.length = 3 from by omega]; decide
    omega
theorem or_le (l : List UInt8) (b : UInt8) (h : l.length ≤ 3) (s : Int) (hs : s = 8 * (l.length : Int)) :
    bits .or .u32 (leI l) (IntKind.u32.wrap ((b.toNat : Int) * 2 ^ s.toNat)) = leI (l ++ [b]) := by
  obtain ⟨i1, i2, i3⟩ := leI_app l b h
  have hr := leI_range (l ++ [b]) (by simp; omega)
  have hs' : s.toNat = 8 * l.length := by omega
  have hb := b.toNat_lt
  rw [hs', IntKind.wrap_u32]
  obtain ⟨x, hx⟩ : ∃ x : Nat, leI l = (x : Int) := ⟨(leI l).toNat, by omega⟩
  obtain ⟨q, hq⟩ : ∃ q : Nat, b.toNat * 2 ^ (8 * l.length) = q := ⟨_, rfl⟩
  have e0 : (b.toNat : Int) * 2 ^ (8 * l.length) = (q : Int) := by rw [← hq]; push_cast; rfl
  have ex : x < 2 ^ (8 * l.length) := by
    have : ((x : Nat) : Int) < ((2 ^ (8 * l.length) : Nat) : Int) := by rw [← hx]; push_cast; exact i3
    exact Int.ofNat_lt.1 this
  rw [e0] at i1 ⊢
  rw [hx] at i1 ⊢
  rw [i1] at hr ⊢
  have hw : (q : Int) % 4294967296 = (q : Int) := by omega
  rw [hw, u32_or_nat _ _ (by omega) (by omega), Nat.or_comm, ← hq, ← Nat.shiftLeft_eq, ← Nat.shiftLeft_add_eq_or_of_lt ex, Nat.shiftLeft_eq, hq]
  omega

set_option maxHeartbeats 1600000 in
theorem Number_any (l : List UInt8) (hl : l.length ≤ 4) (w : World) :
    Calls Tryd.prog 25 #[.string (strB l)] w fun e w' => e = .returned (.int .u32 (leI l)) ∧ w = w' := by
  have HIX := Lib.hid (fun k hk w => index_str (P := Tryd.prog) w Tryd.underlying9 l k hk)
  have hsz := strB_size l
  have HO := Lib.hid (fun (k : Nat) (hk : k < l.length) => show bits .or .u32 (leI (l.take k)) (((l.getD k 0).toNat : Int) % 4294967296 * 2 ^ (8 * k) % 4294967296) = leI (l.take (k + 1)) from by
    have hlk : (l.take k).length = k := by rw [List.length_take]; omega
    have hb := (l.getD k 0).toNat_lt
    have e1 : ((l.getD k 0).toNat : Int) % 4294967296 = ((l.getD k 0).toNat : Int) := by omega
    have ho := or_le (l.take k) (l.getD k 0) (by omega) (8 * (k : Int)) (by rw [hlk])
    rw [IntKind.wrap_u32, show (8 * (k : Int)).toNat = 8 * k from by omega] at ho
    rw [e1, ho, List.take_add_one, List.getElem?_eq_getElem hk, List.getD_eq_getElem?_getD, List.getElem?_eq_getElem hk]
    rfl)
  have HT0 : Hid (leI (l.take 0) = 0) := Lib.hid rfl
  have HTn : Hid (leI (l.take l.length) = leI l) := Lib.hid (by rw [List.take_length])
  obtain ⟨S, hS⟩ : ∃ S, strB l = S := ⟨_, rfl⟩
  obtain ⟨n, hn⟩ : ∃ n, l.length = n := ⟨_, rfl⟩
  rw [hS] at HIX hsz ⊢
  rw [hn] at hsz hl HIX HO HTn
  clear hS hn
  go_enter Tryd.func25, Tryd.ntmps25
  go_wp2
  go_loopg [3, 4, 7] (n + 1) (fun kx s3 s4 s7 wr => ∃ (k : Nat), s3 = .int .u32 (leI (l.take k)) ∧ s7 = .int .i64 k ∧ k ≤ n ∧ n - k < kx ∧ w = wr)
  case atStart => exact ⟨0, by rw [HT0.out], rfl, by omega, by omega, rfl⟩
  case round =>
    obtain ⟨k, rfl, rfl, hk, hkx, rfl⟩ := hrel
    by_cases h : k < n
    · have cx := HIX.out k h
      have ho := Lib.hid (HO.out k h)
      obtain ⟨b, hb⟩ : ∃ b, (l.getD k 0).toNat = b := ⟨_, rfl⟩
      rw [hb] at cx ho
      clear hb
      have h8 : IntKind.i64.wrap (8 * (k : Int)) = 8 * (k : Int) := by rw [IntKind.wrap_i64]; omega
      have h80 : 0 ≤ 8 * (k : Int) := by omega
      go_wp2
      go_roundg (n - k)
      case measure => omega
      case rel => exact ⟨k + 1, by rw [← ho.out], by go_num, by omega, by omega, rfl⟩
    · have hk' : k = n := by omega
      subst hk'
      go_wp2
      go_ret
      exact ⟨by rw [← HTn.out]; rfl, rfl⟩
theorem eat_range (h : Int) (l : List UInt8) : 0 ≤ eatI h l ∧ eatI h l < 4294967296 := by unfold eatI; omega
theorem mix_zero : mixI 0 = 0 := by decide
theorem xor_zero (h : Int) (h0 : 0 ≤ h) (h1 : h < 4294967296) : xor32 h 0 = h := by
  unfold xor32
  rw [u32_xor h 0 h0 h1 (by omega) (by omega)]
  show ((h.toNat ^^^ 0 : Nat) : Int) = h
  rw [Nat.xor_zero]; omega
theorem hashB_short {f : Nat} {h : Int} {l : List UInt8} (hl : l.length < 4) (h0 : 0 ≤ h) (h1 : h < 4294967296) : hashB (f + 1) h l = xor32 h (mixI (leI l)) := by
  by_cases e : l = []
  · subst e
    rw [hashB_nil, show leI [] = 0 from rfl, mix_zero, xor_zero h h0 h1]
  · exact hashB_rest hl e

set_option maxHeartbeats 3200000 in
set_option maxRecDepth 100000 in
theorem Hash_any (seed : Int) (hs0 : 0 ≤ seed) (hs1 : seed < 4294967296) (l : List UInt8) (hl : l.length ≤ 4611686018427387904) (w : World) :
    Calls Tryd.prog 13 #[.int .u32 seed, .string (strB l)] w fun e w' => e = .returned (.int .u32 (hashI seed l)) ∧ w = w' := by
  have hsz := strB_size l
  have HV : Hid (hashI seed l = fin4 (fin3 (fin2 (fin1 (hashB (l.length + 1) seed l) l.length)))) := Lib.hid rfl
  have HDl := Lib.hid (fun at' => show (l.drop at').length = l.length - at' from List.length_drop)
  have HD0 := Lib.hid (show l.drop 0 = l from rfl)
  have HDd := Lib.hid (fun at' => show (l.drop at').drop 4 = l.drop (at' + 4) from List.drop_drop)
  have HSz := Lib.hid (fun (q : List UInt8) => strB_size q)
  have HTo : Hid (∀ (q : List UInt8) (h : 4 ≤ q.length) w, (Instr.slice 9 (.string (strB q)) none (some (.int .i64 4)) none).run Tryd.prog w = .ok (.string (strB (q.take 4))) w) := Lib.hid (fun q h w => slice_to (P := Tryd.prog) w Tryd.underlying9 q 4 h)
  have HFr : Hid (∀ (q : List UInt8) (h : 4 ≤ q.length) w, (Instr.slice 9 (.string (strB q)) (some (.int .i64 4)) none none).run Tryd.prog w = .ok (.string (strB (q.drop 4))) w) := Lib.hid (fun q h w => slice_from (P := Tryd.prog) w Tryd.underlying9 q 4 h)
  obtain ⟨V, hV⟩ : ∃ V, hashI seed l = V := ⟨_, rfl⟩
  rw [hV] at HV ⊢
  obtain ⟨S, hS⟩ : ∃ S, strB l = S := ⟨_, rfl⟩
  have HS := Lib.hid hS
  obtain ⟨n, hn⟩ : ∃ n, l.length = n := ⟨_, rfl⟩
  rw [hS] at hsz ⊢
  rw [hn] at hsz hl HV HDl
  clear hS hn hV
  go_enter Tryd.func13, Tryd.ntmps13
  go_wp2
  go_loopg [5, 6] (n + 1) (fun kx s5 s6 wr => ∃ (at' : Nat) (h : Int), s5 = .int .u32 h ∧ s6 = .string (strB (l.drop at')) ∧ at' ≤ n ∧ n - at' < kx ∧ w = wr ∧ Hid (0 ≤ h ∧ h < 4294967296) ∧ Hid (∃ f, n - at' < f ∧ hashB f h (l.drop at') = hashB (n + 1) seed l))
  case atStart => exact ⟨0, seed, rfl, by rw [HD0.out, HS.out], by omega, by omega, rfl, Lib.hid ⟨hs0, hs1⟩, Lib.hid ⟨n + 1, by omega, by rw [HD0.out]⟩⟩
  case round =>
    obtain ⟨at', h, rfl, rfl, hat, hkx, rfl, HR, HF⟩ := hrel
    have hql := HDl.out at'
    have HDa := Lib.hid (HDd.out at')
    obtain ⟨q, hq⟩ : ∃ q, l.drop at' = q := ⟨_, rfl⟩
    rw [hq] at hql HDa HF ⊢
    clear hq
    obtain ⟨m, hm⟩ : ∃ m, n - at' = m := ⟨_, rfl⟩
    have HM := Lib.hid hm
    rw [hm] at hql hkx HF
    have hsq := HSz.out q
    rw [hql] at hsq
    by_cases h4 : 4 ≤ m
    · have hz4 : (m : Int) ≥ 4 := by omega
      obtain ⟨f, hf1, hf2⟩ := HF.out
      obtain ⟨f', rfl⟩ : ∃ f', f = f' + 1 := ⟨f - 1, by omega⟩
      rw [hashB_four (by omega), HDa.out] at hf2
      have c1 := HTo.out q (by omega)
      have c2 := HFr.out q (by omega)
      rw [HDa.out] at c2
      have HE0 : Hid (eatI h (q.take 4) = (mul32 (rotL (xor32 h (mixI (leI (q.take 4)))) 13) 5 + 3864292196) % 4294967296) := Lib.hid rfl
      have HE1 := Lib.hid (eat_range h (q.take 4))
      have HF1 := Lib.hid hf1
      have HF2 := Lib.hid hf2
      have HNu := Lib.hid (fun w => Number_any (q.take 4) (by rw [List.length_take]; omega) w)
      obtain ⟨p, hp⟩ : ∃ p, q.take 4 = p := ⟨_, rfl⟩
      rw [hp] at HE0 HE1 HF2 HNu c1
      obtain ⟨L, hL⟩ : ∃ L, leI p = L := ⟨_, rfl⟩
      rw [hL] at HE0 HNu
      have HSp := Lib.hid (fun w => Spread_any L w)
      have HRo := Lib.hid (fun w => Rot_any (xor32 h (mixI L)) 13 (by omega) (by omega) w)
      obtain ⟨E, hE⟩ : ∃ E, eatI h p = E := ⟨_, rfl⟩
      rw [hE] at HE0 HE1 HF2
      clear hm hf1 hf2 hp hL hE HF
      go_wp2_with (first
        | (go_at_call 25; refine (HNu.out _).mono ?_; rintro e w' ⟨rfl, rfl⟩)
        | (go_at_call 24; refine (HSp.out _).mono ?_; rintro e w' ⟨rfl, rfl⟩)
        | (go_at_call 23; refine (HRo.out _).mono ?_; rintro e w' ⟨rfl, rfl⟩))
      go_roundg m
      case measure => omega
      case rel => exact ⟨at' + 4, E, by rw [HE0.out]; rfl, rfl, by have := HM.out; omega, by have := HM.out; omega, rfl, HE1, Lib.hid ⟨f', by have := HF1.out; have := HM.out; omega, HF2.out⟩⟩
    · have hz4 : ¬ (m : Int) ≥ 4 := by omega
      obtain ⟨f, hf1, hf2⟩ := HF.out
      obtain ⟨f', rfl⟩ : ∃ f', f = f' + 1 := ⟨f - 1, by omega⟩
      rw [← hf2, hashB_short (by omega) HR.out.1 HR.out.2] at HV
      have HNu := Lib.hid (fun w => Number_any q (by omega) w)
      obtain ⟨L, hL⟩ : ∃ L, leI q = L := ⟨_, rfl⟩
      rw [hL] at HV HNu
      have HSp := Lib.hid (fun w => Spread_any L w)
      have HVe := Lib.hid HV.out
      clear hm hf1 hf2 hL HF HV
      go_wp2_with (first
        | (go_at_call 25; refine (HNu.out _).mono ?_; rintro e w' ⟨rfl, rfl⟩)
        | (go_at_call 24; refine (HSp.out _).mono ?_; rintro e w' ⟨rfl, rfl⟩))
      go_ret
      exact ⟨by rw [HVe.out]; simp [fin4, fin3, fin2, fin1, mul32, xor32], rfl⟩
end Go.Proofs.YtgmohgofcjemkaaDoor

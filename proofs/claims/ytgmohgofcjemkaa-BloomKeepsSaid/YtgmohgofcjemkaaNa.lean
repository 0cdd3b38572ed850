/- What is proved: the document's hash of a text. Conditions: a text of at most 2^62 bytes. -/
import Derived.Test.YtgmohgofcjemkaaBb
import Derived.Deep.DeepFit
import Derived.Shelf.Abstract
import Derived.Deep.CutBlock
import Derived.Deep.RegionWith
import Derived.BigQuiet
import Derived.WalkSpells
import Derived.WalkLawsBesides
namespace Go.Proofs.Ytgmohgofcjemkaa
open Go.RowKit Go.Shelf
set_option linter.unusedVariables false

/-- x turned left by n. -/
def rotL (x : Int) (n : Nat) : Int := bits .or .u32 (x * 2 ^ n % 4294967296) (x / 2 ^ (32 - n))
def mul32 (x c : Int) : Int := x * c % 4294967296
def xor32 (x y : Int) : Int := bits .xor .u32 x y
/-- Four bytes, as they go into a hash. -/
def mixI (k : Int) : Int := mul32 (rotL (mul32 k 3432918353) 15) 461845907
/-- Bytes as a number, the lowest first. -/
def leI : List UInt8 → Int
  | [] => 0
  | b :: l => leI l * 256 % 4294967296 + b.toNat
def eatI (h : Int) (l : List UInt8) : Int := (mul32 (rotL (xor32 h (mixI (leI l))) 13) 5 + 3864292196) % 4294967296
/-- What the bytes make of h. -/
def hashB : Nat → Int → List UInt8 → Int
  | 0, h, _ => h
  | f + 1, h, l => if 4 ≤ l.length then hashB f (eatI h (l.take 4)) (l.drop 4) else if l = [] then h else xor32 h (mixI (leI l))
def fin1 (h : Int) (n : Nat) : Int := xor32 h ((n : Int) % 4294967296)
def fin2 (h : Int) : Int := mul32 (xor32 h (h / 65536)) 2246822507
def fin3 (h : Int) : Int := mul32 (xor32 h (h / 8192)) 3266489909
def fin4 (h : Int) : Int := xor32 h (h / 65536)
def hashI (seed : Int) (l : List UInt8) : Int := fin4 (fin3 (fin2 (fin1 (hashB (l.length + 1) seed l) l.length)))

theorem xor_range (a b : Int) : 0 ≤ bits .xor .u32 a b ∧ bits .xor .u32 a b < 4294967296 := by
  unfold bits
  rw [IntKind.wrap_u32]
  omega
theorem xor_div (a b : Int) : (bits .xor .u32 a b).tdiv 65536 % 4294967296 = bits .xor .u32 a b / 65536 := by
  obtain ⟨h1, h2⟩ := xor_range a b
  rw [Int.tdiv_eq_ediv_of_nonneg h1]
  omega
theorem Qbleft_any (x : Int) (n : Nat) (h1 : 1 ≤ n) (h2 : n < 32) (w : World) :
    Calls Try.prog 22 #[.int .u32 x, .int .u64 n] w fun e w' => e = .returned (.int .u32 (rotL x n)) ∧ w = w' := by
  obtain ⟨s, hs⟩ : ∃ s : Int, (n : Int) = s := ⟨_, rfl⟩
  rw [hs]
  have hs0 : 0 ≤ s := by omega
  have hs1 : s ≤ 32 := by omega
  have hs2 : IntKind.u64.wrap (32 - s) = 32 - s := by rw [IntKind.wrap_u64]; omega
  have hs3 : 0 ≤ 32 - s := by omega
  have hs4 : 32 - s ≤ 32 := by omega
  have e1 : s.toNat = n := by omega
  have e2 : (32 - s).toNat = 32 - n := by omega
  clear hs
  go_enter Try.func22, Try.ntmps22
  go_wp2
  go_ret
  exact ⟨rfl, rfl⟩
theorem Qbmixed_any (k : Int) (w : World) : Calls Try.prog 21 #[.int .u32 k] w fun e w' => e = .returned (.int .u32 (mixI k)) ∧ w = w' := by
  have HL := Lib.hid (fun w => Qbleft_any (mul32 k 3432918353) 15 (by omega) (by omega) w)
  have HE : Hid (mul32 (rotL (mul32 k 3432918353) 15) 461845907 = mixI k) := Lib.hid rfl
  go_enter Try.func21, Try.ntmps21
  go_wp2_with (go_at_call 22; refine (HL.out _).mono ?_; rintro e w' ⟨rfl, rfl⟩)
  go_ret
  exact ⟨rfl, rfl⟩
theorem hashB_four {f : Nat} {h : Int} {l : List UInt8} (hl : 4 ≤ l.length) : hashB (f + 1) h l = hashB f (eatI h (l.take 4)) (l.drop 4) := by rw [hashB, if_pos hl]
theorem hashB_nil {f : Nat} {h : Int} : hashB f h [] = h := by
  cases f with
  | zero => rfl
  | succ f => rw [hashB, if_neg (by simp), if_pos rfl]
theorem hashB_rest {f : Nat} {h : Int} {l : List UInt8} (hl : l.length < 4) (h0 : l ≠ []) : hashB (f + 1) h l = xor32 h (mixI (leI l)) := by rw [hashB, if_neg (by omega), if_neg h0]
theorem leI_step {q : List UInt8} {m : Nat} (h : m < q.length) : leI (q.drop m) = leI (q.drop (m + 1)) * 256 % 4294967296 + (q.getD m 0).toNat := by
  rw [List.drop_eq_getElem_cons h, leI, List.getD_eq_getElem?_getD, List.getElem?_eq_getElem h]; rfl

set_option maxHeartbeats 3200000 in
set_option maxRecDepth 100000 in
theorem QbHash_any (seed : Int) (l : List UInt8) (hl : l.length ≤ 4611686018427387904) (w : World) :
    Calls Try.prog 9 #[.int .u32 seed, .string (strB l)] w fun e w' => e = .returned (.int .u32 (hashI seed l)) ∧ w = w' := by
  have hix := fun k hk w => index_str (P := Try.prog) w Try.underlying9 l k hk
  have HIX := Lib.hid hix
  have hsz := strB_size l
  have HH : Hid (∀ h, fin4 (fin3 (fin2 (fin1 h l.length))) = fin4 (fin3 (fin2 (fin1 h l.length)))) := Lib.hid (fun _ => rfl)
  have HV : Hid (hashI seed l = fin4 (fin3 (fin2 (fin1 (hashB (l.length + 1) seed l) l.length)))) := Lib.hid rfl
  have HFour := Lib.hid (fun f h at' (hh : 4 ≤ (l.drop at').length) => hashB_four (f := f) (h := h) hh)
  have HRest := Lib.hid (fun f h at' (hh : (l.drop at').length < 4) (h0 : l.drop at' ≠ []) => hashB_rest (f := f) (h := h) hh h0)
  have HNil := Lib.hid (fun f h => hashB_nil (f := f) (h := h))
  have HStep := Lib.hid (fun (q : List UInt8) m (h : m < q.length) => leI_step h)
  have HDl := Lib.hid (fun at' => show (l.drop at').length = l.length - at' from List.length_drop)
  have HGd := Lib.hid (fun at' m => show (l.drop at').getD m 0 = l.getD (at' + m) 0 from by rw [List.getD_eq_getElem?_getD, List.getD_eq_getElem?_getD, List.getElem?_drop])
  have HD0 := Lib.hid (show l.drop 0 = l from rfl)
  have HDd := Lib.hid (fun at' => show (l.drop at').drop 4 = l.drop (at' + 4) from List.drop_drop)
  obtain ⟨V, hV⟩ : ∃ V, hashI seed l = V := ⟨_, rfl⟩
  rw [hV] at HV ⊢
  obtain ⟨S, hS⟩ : ∃ S, strB l = S := ⟨_, rfl⟩
  obtain ⟨n, hn⟩ : ∃ n, l.length = n := ⟨_, rfl⟩
  rw [hS] at hix hsz ⊢
  rw [hS] at HIX
  rw [hn] at hsz hl HIX HV HDl
  clear hix hS hn HH hV
  go_enter Try.func9, Try.ntmps9
  go_wp2
  go_loopg [5, 6] (n + 1) (fun kx s5 s6 wr => ∃ (at' : Nat) (h : Int), s5 = .int .u32 h ∧ s6 = .int .i64 at' ∧ at' ≤ n ∧ n - at' < kx ∧ w = wr ∧ Hid (∃ f, n - at' < f ∧ hashB f h (l.drop at') = hashB (n + 1) seed l))
  case atStart => exact ⟨0, seed, rfl, rfl, by omega, by omega, rfl, Lib.hid ⟨n + 1, by omega, by rw [HD0.out]⟩⟩
  case round =>
    obtain ⟨at', h, rfl, rfl, hat, hkx, rfl, HF⟩ := hrel
    by_cases h4 : at' + 4 ≤ n
    · have hz4 : (at' : Int) + 4 ≤ (n : Int) := by omega
      have w4 : IntKind.i64.wrap ((at' : Int) + 4) = (at' : Int) + 4 := by rw [IntKind.wrap_i64]; omega
      have hql : ((l.drop at').take 4).length = 4 := by rw [List.length_take, HDl.out]; omega
      have HQg := Lib.hid (fun m (hm : m < 4) => show ((l.drop at').take 4).getD m 0 = l.getD (at' + m) 0 from by
        rw [← HGd.out at' m, List.getD_eq_getElem?_getD, List.getElem?_take, if_pos hm, List.getD_eq_getElem?_getD])
      obtain ⟨f, hf1, hf2⟩ := HF.out
      obtain ⟨f', rfl⟩ : ∃ f', f = f' + 1 := ⟨f - 1, by omega⟩
      rw [HFour.out f' h at' (by rw [HDl.out]; omega), HDd.out] at hf2
      have HSt := Lib.hid (HStep.out ((l.drop at').take 4))
      rw [hql] at HSt
      have HQ4 : Hid (leI (((l.drop at').take 4).drop 4) = 0) := Lib.hid (by rw [List.drop_of_length_le (by rw [hql]; exact Nat.le_refl _)]; rfl)
      have HE0 : Hid (∀ h q, eatI h q = (mul32 (rotL (xor32 h (mixI (leI q))) 13) 5 + 3864292196) % 4294967296) := Lib.hid (fun h q => rfl)
      obtain ⟨q, hq⟩ : ∃ q, (l.drop at').take 4 = q := ⟨_, rfl⟩
      rw [hq] at hf2 HSt HQ4 HQg
      have HF2 := Lib.hid hf2
      have HF1 := Lib.hid hf1
      clear hf1 hf2 hql hq HF
      go_wp2
      go_loopg [7, 8] 4 (fun kx s7 s8 wr => ∃ m : Nat, s8 = .int .i64 ((m : Int) - 1) ∧ s7 = .int .u32 (leI (q.drop m)) ∧ m ≤ 4 ∧ m ≤ kx ∧ w = wr)
      case atStart => exact ⟨4, rfl, by rw [HQ4.out], by omega, by omega, rfl⟩
      case round =>
        obtain ⟨m, rfl, rfl, hm, hmx, rfl⟩ := hrel
        cases m with
        | zero =>
          have hd0 : q.drop 0 = q := rfl
          rw [hd0]
          have hz0 : ((0 : Nat) : Int) - 1 = -1 := by omega
          rw [hz0]
          have HM := Lib.hid (fun w => Qbmixed_any (leI q) w)
          have HL := Lib.hid (fun w => Qbleft_any (xor32 h (mixI (leI q))) 13 (by omega) (by omega) w)
          go_wp2_with (first
            | (go_at_call 21; refine (HM.out _).mono ?_; rintro e w' ⟨rfl, rfl⟩)
            | (go_at_call 22; refine (HL.out _).mono ?_; rintro e w' ⟨rfl, rfl⟩))
          go_roundg (n - at')
          case measure => omega
          case rel => exact ⟨at' + 4, eatI h q, by rw [HE0.out]; rfl, by go_num, by omega, by omega, rfl, Lib.hid ⟨f', by have := HF1.out; omega, HF2.out⟩⟩
        | succ m =>
          have hz : ((m + 1 : Nat) : Int) - 1 = (m : Int) := by omega
          rw [hz]
          have hm0 : (m : Int) ≥ 0 := by omega
          have hi := HIX.out (at' + m) (by omega)
          rw [HQg.out m (by omega) |>.symm] at hi
          have hS := HSt.out m (by omega)
          rw [Int.natCast_add] at hi
          have wm : IntKind.i64.wrap ((at' : Int) + (m : Int)) = (at' : Int) + (m : Int) := by rw [IntKind.wrap_i64]; omega
          have wm1 : IntKind.i64.wrap ((m : Int) - 1) = (m : Int) - 1 := by rw [IntKind.wrap_i64]; omega
          obtain ⟨X, hX⟩ : ∃ X, leI (q.drop (m + 1)) = X := ⟨_, rfl⟩
          obtain ⟨b, hb⟩ : ∃ b, (q.getD m 0).toNat = b := ⟨_, rfl⟩
          have hb256 : b < 256 := by rw [← hb]; exact (q.getD m 0).toNat_lt
          rw [hX, hb] at hS
          rw [hb] at hi
          rw [hX]
          have HSs := Lib.hid hS
          clear hX hb hS
          go_wp2
          go_roundg m
          case measure => omega
          case rel => exact ⟨m, rfl, by rw [HSs.out], by omega, Nat.le_refl _, rfl⟩
    · have hz4 : ¬ (at' : Int) + 4 ≤ (n : Int) := by omega
      have w4 : IntKind.i64.wrap ((at' : Int) + 4) = (at' : Int) + 4 := by rw [IntKind.wrap_i64]; omega
      obtain ⟨f, hf1, hf2⟩ := HF.out
      obtain ⟨f', rfl⟩ : ∃ f', f = f' + 1 := ⟨f - 1, by omega⟩
      rw [← hf2] at HV
      by_cases hn : at' = n
      · have h0 : l.drop at' = [] := by rw [List.eq_nil_iff_length_eq_zero, HDl.out]; omega
        rw [h0, HNil.out] at HV
        subst hn
        have HVe := Lib.hid HV.out
        clear HF hf1 hf2 h0 HV
        go_wp2
        go_ret
        exact ⟨by rw [HVe.out]; simp [fin4, fin3, fin2, fin1, mul32, xor32, xor_div], rfl⟩
      · have hltz : (at' : Int) < (n : Int) := by omega
        have hql : (l.drop at').length = n - at' := HDl.out at'
        rw [HRest.out f' h at' (by omega) (by intro e; rw [e] at hql; simp at hql; omega)] at HV
        have HSt := Lib.hid (HStep.out (l.drop at'))
        have HQg := Lib.hid (HGd.out at')
        have HQn : Hid (leI ((l.drop at').drop (n - at')) = 0) := Lib.hid (by rw [List.drop_of_length_le (by rw [hql]; exact Nat.le_refl _)]; rfl)
        obtain ⟨q, hq⟩ : ∃ q, l.drop at' = q := ⟨_, rfl⟩
        rw [hq] at HSt HQn HQg hql HV
        rw [hql] at HSt
        have HVe := Lib.hid HV.out
        have wn : IntKind.i64.wrap ((n : Int) - 1) = (n : Int) - 1 := by rw [IntKind.wrap_i64]; omega
        clear HF hf1 hf2 hq HV hql
        go_wp2
        go_loopg [9, 10] (n - at') (fun kx s9 s10 wr => ∃ m : Nat, s10 = .int .i64 ((at' : Int) + (m : Int) - 1) ∧ s9 = .int .u32 (leI (q.drop m)) ∧ m ≤ n - at' ∧ m ≤ kx ∧ w = wr)
        case atStart => exact ⟨n - at', by congr 1; omega, by rw [HQn.out], by omega, by omega, rfl⟩
        case round =>
          obtain ⟨m, rfl, rfl, hm, hmx, rfl⟩ := hrel
          cases m with
          | zero =>
            have hd0 : q.drop 0 = q := rfl
            rw [hd0]
            have hz0 : (at' : Int) + ((0 : Nat) : Int) - 1 = (at' : Int) - 1 := by omega
            rw [hz0]
            have hz1 : ¬ (at' : Int) - 1 ≥ (at' : Int) := by omega
            have HM := Lib.hid (fun w => Qbmixed_any (leI q) w)
            go_wp2_with (go_at_call 21; refine (HM.out _).mono ?_; rintro e w' ⟨rfl, rfl⟩)
            go_ret
            exact ⟨by rw [HVe.out]; simp [fin4, fin3, fin2, fin1, mul32, xor32, xor_div], rfl⟩
          | succ m =>
            have hz : (at' : Int) + ((m + 1 : Nat) : Int) - 1 = (at' : Int) + (m : Int) := by omega
            rw [hz]
            have hm0 : (at' : Int) + (m : Int) ≥ (at' : Int) := by omega
            have hi := HIX.out (at' + m) (by omega)
            rw [(HQg.out m).symm] at hi
            have hS := HSt.out m (by omega)
            rw [Int.natCast_add] at hi
            have wm1 : IntKind.i64.wrap ((at' : Int) + (m : Int) - 1) = (at' : Int) + (m : Int) - 1 := by rw [IntKind.wrap_i64]; omega
            obtain ⟨X, hX⟩ : ∃ X, leI (q.drop (m + 1)) = X := ⟨_, rfl⟩
            obtain ⟨b, hb⟩ : ∃ b, (q.getD m 0).toNat = b := ⟨_, rfl⟩
            have hb256 : b < 256 := by rw [← hb]; exact (q.getD m 0).toNat_lt
            rw [hX, hb] at hS
            rw [hb] at hi
            rw [hX]
            have HSs := Lib.hid hS
            clear hX hb hS
            go_wp2
            go_roundg m
            case measure => omega
            case rel => exact ⟨m, by go_num, by rw [HSs.out], by omega, Nat.le_refl _, rfl⟩
end Go.Proofs.Ytgmohgofcjemkaa

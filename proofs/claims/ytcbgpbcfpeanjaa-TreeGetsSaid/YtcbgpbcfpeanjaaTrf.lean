/- What is proved: plain facts on runs that grow by twos; the library's stable sort of a list of entries: a permutation, in order, of equals as they stood. Conditions: the list lies in a block; the comparison's contract. -/
import Derived.Test.YtcbgpbcfpeanjaaTre
namespace Go.Proofs.Ytcbgpbcfpeanjaa
open Go.Shelf Go.RowKit Go.Lib Go.Sort
set_option linter.unusedVariables false

section
variable {α : Type} [Inhabited α]
variable {lt : α → α → Bool} {ix : α → Nat}

/-- Runs of 20, as far as c. -/
structure Runs20 (lt : α → α → Bool) (ix : α → Nat) (c n : Nat) (d : Array α) : Prop where
  runs : ∀ t, t * 20 + 20 ≤ c → St lt ix (t * 20) (t * 20 + 20) d
  cuts : ∀ t, Cr ix (t * 20) 0 n d
  rest : ∀ p, c ≤ p → Cr ix p 0 n d
theorem Runs20.start {n : Nat} {d : Array α} (h : ∀ p q, p < q → q < n → ix d[p]! < ix d[q]!) : Runs20 lt ix 0 n d :=
  ⟨fun t ht => by omega, fun t i j _ h1 h2 h3 => h i j (by omega) h3, fun p _ i j _ h1 h2 h3 => h i j (by omega) h3⟩
theorem Runs20.rising {c n : Nat} {d : Array α} (h : Runs20 lt ix c n d) (e : Nat) (he : e ≤ n) : ∀ p q, c ≤ p → p < q → q < e → ix d[p]! < ix d[q]! :=
  fun p q h1 h2 h3 => h.rest q (by omega) p q (Nat.zero_le _) h2 (Nat.le_refl _) (by omega)
theorem Runs20.step {t0 n : Nat} {d d' : Array α} (h : Runs20 lt ix (t0 * 20) n d) (hp : PermIn (t0 * 20) (t0 * 20 + 20) d d') (hs : t0 * 20 + 20 ≤ n) (hn : n ≤ d.size) (s : St lt ix (t0 * 20) (t0 * 20 + 20) d') : Runs20 lt ix (t0 * 20 + 20) n d' := by
  refine ⟨fun t ht => ?_, fun t => ?_, fun p hpp => ?_⟩
  · by_cases e : t = t0
    · rw [e]; exact s
    · exact (h.runs t (by omega)).away hp (by omega)
  · refine (h.cuts t).perm hp (by omega) ?_
    by_cases e : t ≤ t0
    · exact .inr (.inl ⟨by omega, hs⟩)
    · exact .inl ⟨Nat.zero_le _, by omega⟩
  · exact (h.rest p (by omega)).perm hp (by omega) (.inl ⟨Nat.zero_le _, hpp⟩)

/-- Runs of s. -/
structure Runs (lt : α → α → Bool) (ix : α → Nat) (s n : Nat) (d : Array α) : Prop where
  runs : ∀ t, St lt ix (t * s) (min (t * s + s) n) d
  cuts : ∀ t, Cr ix (t * s) 0 n d
theorem Runs20.last {t0 n : Nat} {d d' : Array α} (h : Runs20 lt ix (t0 * 20) n d) (hp : PermIn (t0 * 20) n d d') (h0 : t0 * 20 ≤ n) (hs : n < t0 * 20 + 20) (hn : n ≤ d.size) (s : St lt ix (t0 * 20) n d') : Runs lt ix 20 n d' := by
  refine ⟨fun t => ?_, fun t => ?_⟩
  · by_cases e : t = t0
    · rw [e]; exact s.le (Nat.le_refl _) (Nat.min_le_right _ _)
    · by_cases e2 : t < t0
      · exact ((h.runs t (by omega)).away hp (by omega)).le (Nat.le_refl _) (Nat.min_le_left _ _)
      · exact St.short (by have := Nat.min_le_right (t * 20 + 20) n; omega)
  · refine (h.cuts t).perm hp hn ?_
    by_cases e : t ≤ t0
    · exact .inr (.inl ⟨by omega, Nat.le_refl _⟩)
    · exact .inl ⟨Nat.zero_le _, by omega⟩

/-- Runs of s, of which the first ones are merged two by two. -/
structure Twos (lt : α → α → Bool) (ix : α → Nat) (s t0 n : Nat) (d : Array α) : Prop where
  done : ∀ t, t < t0 → St lt ix (t * (2 * s)) (min (t * (2 * s) + 2 * s) n) d
  left : ∀ t, 2 * t0 ≤ t → St lt ix (t * s) (min (t * s + s) n) d
  cuts : ∀ t, Cr ix (t * (2 * s)) 0 n d
  more : ∀ t, 2 * t0 ≤ t → Cr ix (t * s) 0 n d
theorem twice_mul (t s : Nat) : t * (2 * s) = 2 * t * s := by rw [Nat.mul_left_comm, Nat.mul_assoc]
theorem Runs.twos {s n : Nat} {d : Array α} (h : Runs lt ix s n d) : Twos lt ix s 0 n d :=
  ⟨fun t ht => by omega, fun t _ => h.runs t, fun t => by rw [twice_mul]; exact h.cuts _, fun t _ => h.cuts t⟩
/-- The two runs that come next. -/
theorem Twos.two {s t0 n a e : Nat} {d : Array α} (h : Twos lt ix s t0 n d) (ha : a = t0 * (2 * s)) (he : e = min (a + 2 * s) n) (hm : a + s ≤ n) : Two lt ix a (a + s) e d := by
  have e0 : 2 * t0 * s = a := by rw [ha, twice_mul]
  have e1 : (2 * t0 + 1) * s = a + s := by rw [Nat.add_mul, e0, Nat.one_mul]
  have h1 := h.left (2 * t0) (Nat.le_refl _)
  have h2 := h.left (2 * t0 + 1) (by omega)
  have h3 := h.more (2 * t0 + 1) (by omega)
  rw [e0] at h1
  rw [e1] at h2 h3
  exact ⟨h1.le (Nat.le_refl _) (by omega), h2.le (Nat.le_refl _) (by omega), h3.le (Nat.zero_le _) (by omega)⟩
/-- The one run that is left. -/
theorem Twos.one {s t0 n a : Nat} {d : Array α} (h : Twos lt ix s t0 n d) (ha : a = t0 * (2 * s)) (hm : n ≤ a + s) : St lt ix a n d := by
  have h1 := h.left (2 * t0) (Nat.le_refl _)
  rw [show 2 * t0 * s = a by rw [ha, twice_mul]] at h1
  exact h1.le (Nat.le_refl _) (by omega)
theorem Twos.step {s t0 n a e : Nat} {d d' : Array α} (h : Twos lt ix s t0 n d) (ha : a = t0 * (2 * s)) (he : e = min (a + 2 * s) n) (hn : n ≤ d.size) (hp : PermIn a e d d') (hs : St lt ix a e d') : Twos lt ix s (t0 + 1) n d' := by
  have up : ∀ t, t0 + 1 ≤ t → a + 2 * s ≤ t * (2 * s) := fun t ht => by
    have := Nat.mul_le_mul_right (2 * s) ht
    rw [Nat.add_mul, Nat.one_mul] at this; omega
  have dn : ∀ t, t < t0 → t * (2 * s) + 2 * s ≤ a := fun t ht => by
    have := Nat.mul_le_mul_right (2 * s) (show t + 1 ≤ t0 from ht)
    rw [Nat.add_mul, Nat.one_mul] at this; omega
  have up2 : ∀ t, 2 * (t0 + 1) ≤ t → a + 2 * s ≤ t * s := fun t ht => by
    have := Nat.mul_le_mul_right s ht
    rw [← twice_mul, Nat.add_mul, Nat.one_mul] at this; omega
  have h2 : ∀ p, a + 2 * s ≤ p → Cr ix p 0 n d → Cr ix p 0 n d' := fun p h1 h => h.perm hp (by omega) (.inl ⟨Nat.zero_le _, by omega⟩)
  refine ⟨fun t ht => ?_, fun t ht => ?_, fun t => ?_, fun t ht => h2 _ (up2 t ht) (h.more t (by omega))⟩
  · by_cases e0 : t = t0
    · rw [e0, ← ha, ← he]; exact hs
    · exact (h.done t (by omega)).away hp (.inl (by have := dn t (by omega); omega))
  · have := up2 t ht
    exact (h.left t (by omega)).away hp (.inr (by omega))
  · by_cases e0 : t ≤ t0
    · refine (h.cuts t).perm hp (by omega) ?_
      have : t * (2 * s) ≤ a := by rw [ha]; exact Nat.mul_le_mul_right _ e0
      exact .inr (.inl ⟨this, by omega⟩)
    · exact h2 _ (up t (by omega)) (h.cuts t)
theorem Twos.all {s t0 n : Nat} {d : Array α} (h : Twos lt ix s t0 n d) (hn : n ≤ t0 * (2 * s)) : Runs lt ix (2 * s) n d := by
  refine ⟨fun t => ?_, h.cuts⟩
  by_cases e : t < t0
  · exact h.done t e
  · refine St.short ?_
    have := Nat.mul_le_mul_right (2 * s) (show t0 ≤ t by omega)
    omega
theorem Runs.all {s n : Nat} {d : Array α} (h : Runs lt ix s n d) (hn : n ≤ s) : St lt ix 0 n d := by
  have := h.runs 0
  rw [Nat.zero_mul] at this
  exact this.le (Nat.le_refl _) (by omega)

set_option maxHeartbeats 8000000 in
set_option maxRecDepth 1000000 in
/-- The stable sort. -/
theorem Gstable_any (enc : α → List Value) (cf : α → α → Int) (ixf : α → Nat) (g : Nat) (cb : Array Value) (blk off cap : Nat) (d : Array α) (w : World)
    (eg : ∀ args w, (callFunc g args).run Try.prog w = .ok (.enter g args) w) (hO : SWO (ltOf cf)) (hcmp : CmpLays Try.prog g cb enc 34 cf blk off d.size w) (R : RowK enc 34 w blk off d) (hsz : d.size < 1000000)
    (hx : ∀ p q, p < q → q < d.size → ixf d[p]! < ixf d[q]!) :
    Calls Try.prog 44 #[.slice (some ⟨blk, off, none⟩) d.size cap, .int .i64 d.size, .func (.func g) #[] cb] w fun e w' => e = .returned (.tuple #[]) ∧
      ∃ d', SWK enc 34 w blk off d' w' ∧ PermIn 0 d.size d d' ∧ St (ltOf cf) ixf 0 d.size d' := by
  have HC : Aside _ := hcmp
  have S0 : Aside (SWK enc 34 w blk off d w) := SWK.start R.hH
  have HX := Lib.hid (Runs20.start (lt := ltOf cf) hx)
  have HM := Lib.hid (GsymMerge_any enc cf ixf g cb blk off cap d w eg hO hcmp R hsz)
  have HI := Lib.hid (fun a b dk wr hs S hx hab hb => Ginsertion_any enc cf g cb blk off cap a b d dk w wr eg hcmp R hs S hO ixf hx hab hb (by omega))
  obtain ⟨n, hn⟩ : ∃ n, n = d.size := ⟨_, rfl⟩
  have HN := Lib.hid hn
  rw [← hn] at hsz ⊢
  clear hcmp hx hn
  go_enter Try.func44, Try.ntmps44
  go_wp2
  go_loopg [7, 8] n (fun kx s7 s8 wr => ∃ (t : Nat) (dk : Array α), s7 = .int .i64 ((t * 20 : Nat) : Int) ∧ s8 = .int .i64 ((t * 20 + 20 : Nat) : Int) ∧ t * 20 ≤ n ∧ n - t * 20 ≤ kx ∧ dk.size = n ∧ Aside (SWK enc 34 w blk off dk wr) ∧ Hid (PermIn 0 n d dk) ∧ Hid (Runs20 (ltOf cf) ixf (t * 20) n dk))
  case atStart => exact ⟨0, d, by simp, by simp, by omega, by omega, HN.out.symm, S0, Lib.hid (permIn_refl _ _ _), Lib.hid (by have := HX.out; rw [HN.out]; exact this)⟩
  case round =>
    clear S0
    obtain ⟨t, dk, rfl, rfl, htn, hkx, hds, S1, HP, HR⟩ := hrel
    obtain ⟨a, ha⟩ : ∃ a, a = t * 20 := ⟨_, rfl⟩
    rw [← ha] at htn hkx
    rw [show t * 20 + 20 = a + 20 by omega, ← ha]
    have HA := Lib.hid ha
    clear ha
    by_cases hlt : a + 20 ≤ n
    · have hltz : (a : Int) + 20 ≤ (n : Int) := by omega
      have hc := HI.out a (a + 20) dk wr (by have := HN.out; omega) S1.out (HR.out.rising (a + 20) hlt |> fun h => by rw [← HA.out] at h; exact h) (by omega) (by omega)
      rw [hds] at hc
      have HG := Lib.hid hc
      clear hc
      go_wp2_with (go_at_call 50; refine HG.out.mono ?_; rintro e w2 ⟨rfl, d2, S2, hs2, hp2⟩)
      go_roundg (n - (a + 20))
      case measure => omega
      case rel =>
        have hA := HA.out
        subst hA
        exact ⟨t + 1, d2, by simp [Nat.add_mul], by simp [Nat.add_mul], by omega, by omega, hp2.1.trans hds, S2, Lib.hid (permIn_trans _ _ _ _ _ HP.out (permIn_mono _ _ _ _ _ _ (Nat.zero_le _) hlt (by omega) hp2)), Lib.hid (by rw [Nat.add_mul, Nat.one_mul]; exact HR.out.step hp2 hlt (by omega) hs2)⟩
    · have hltz : ¬ ((a : Int) + 20 ≤ (n : Int)) := by omega
      have hc := HI.out a n dk wr (by have := HN.out; omega) S1.out (HR.out.rising n (Nat.le_refl _) |> fun h => by rw [← HA.out] at h; exact h) htn (by omega)
      rw [hds] at hc
      have HG := Lib.hid hc
      clear hc
      go_wp2_with (go_at_call 50; refine HG.out.mono ?_; rintro e w2 ⟨rfl, d2, S2, hs2, hp2⟩)
      have HR2 : Hid (Runs (ltOf cf) ixf 20 n d2) := Lib.hid (by have := HA.out; subst this; exact HR.out.last hp2 htn (by omega) (by omega) hs2)
      have HP2 := Lib.hid (permIn_trans _ _ _ _ _ HP.out (permIn_mono _ _ _ _ _ _ (Nat.zero_le _) (Nat.le_refl _) (by omega) hp2))
      have hd2 : d2.size = n := hp2.1.trans hds
      have S3 : Aside (SWK enc 34 w blk off d2 w2) := S2
      clear hp2 hs2 HP HR S1 S2 HG HA hds
      go_loopg [6] n (fun kx s6 wr => ∃ (s : Nat) (dk : Array α), s6 = .int .i64 s ∧ 20 ≤ s ∧ s ≤ 2000000 ∧ n - s ≤ kx ∧ dk.size = n ∧ Aside (SWK enc 34 w blk off dk wr) ∧ Hid (PermIn 0 n d dk) ∧ Hid (Runs (ltOf cf) ixf s n dk))
      case atStart => exact ⟨20, d2, rfl, by omega, by omega, by omega, hd2, S3, HP2, HR2⟩
      case round =>
        clear S3 HP2 HR2 hd2 d2 dk hlt htn hkx hltz
        obtain ⟨s, dk, rfl, hs20, hs2m, hkx, hds, S1, HP, HR⟩ := hrel
        by_cases hlt : s < n
        · have hltz : (s : Int) < (n : Int) := by omega
          obtain ⟨s2, hs2⟩ : ∃ x, x = 2 * s := ⟨_, rfl⟩
          have hs2z : (2 : Int) * (s : Int) = (s2 : Int) := by omega
          have hs3z : (s : Int) * (2 : Int) = (s2 : Int) := by omega
          have hss1 : s < s2 := by omega
          have hss3 : s2 ≤ 2000000 := by omega
          have HS2 := Lib.hid hs2
          clear hs2
          go_wp2
          go_loopg [7, 8] n (fun kx s7 s8 wr => ∃ (t a b : Nat) (dk : Array α), s7 = .int .i64 a ∧ s8 = .int .i64 b ∧ Hid (b = a + s2) ∧ a ≤ b ∧ b ≤ 5000000 ∧ Hid (a = t * (2 * s)) ∧ a ≤ n ∧ n - a ≤ kx ∧ dk.size = n ∧ Aside (SWK enc 34 w blk off dk wr) ∧ Hid (PermIn 0 n d dk) ∧ Hid (Twos (ltOf cf) ixf s t n dk))
          case atStart => exact ⟨0, 0, s2, dk, rfl, rfl, Lib.hid (by omega), by omega, by omega, Lib.hid (by omega), by omega, by omega, hds, S1, HP, Lib.hid HR.out.twos⟩
          case round =>
            clear S1 HP HR hds dk
            obtain ⟨t, a, b, dk, rfl, rfl, HB, hab, hbm, HA, han, hkx2, hds, S1, HP, HT⟩ := hrel
            obtain ⟨m, hm⟩ : ∃ m, m = a + s := ⟨_, rfl⟩
            have hmz : (a : Int) + (s : Int) = (m : Int) := by omega
            have HMm := Lib.hid hm
            have ham : a < m := by omega
            have hmb : m < b := by have := HB.out; omega
            clear hm
            by_cases hl2 : b ≤ n
            · have hl2z : (b : Int) ≤ (n : Int) := by omega
              have htw := HT.out.two (a := a) (e := b) HA.out (by have := HB.out; have := HS2.out; omega) (by have := HMm.out; omega)
              rw [← HMm.out] at htw
              have hc := HM.out (b - a + 1) a m b dk wr (by omega) (by have := HN.out; omega) S1.out htw ham hmb (by omega)
              unfold MergeSays at hc
              rw [hds] at hc
              have HG := Lib.hid hc
              clear hc htw
              go_wp2_with (go_at_call 51; refine HG.out.mono ?_; rintro e w2 ⟨rfl, d2, S2, hp2, hs2'⟩)
              go_roundg (n - b)
              case measure => omega
              case rel => exact ⟨t + 1, b, b + s2, d2, rfl, by go_num, Lib.hid rfl, by omega, by omega, Lib.hid (by have h1 := HA.out; have h2 := HB.out; have h3 := HS2.out; rw [Nat.add_mul, Nat.one_mul, ← h1]; omega), hl2, Nat.le_refl _, hp2.1.trans hds, S2, Lib.hid (permIn_trans _ _ _ _ _ HP.out (permIn_mono _ _ _ _ _ _ (Nat.zero_le _) hl2 (by omega) hp2)), Lib.hid (HT.out.step HA.out (by have := HB.out; have := HS2.out; omega) (by omega) hp2 hs2')⟩
            · have hl2z : ¬ ((b : Int) ≤ (n : Int)) := by omega
              by_cases hl3 : m < n
              · have hl3z : (m : Int) < (n : Int) := by omega
                have htw := HT.out.two (a := a) (e := n) HA.out (by have := HB.out; have := HS2.out; omega) (by have := HMm.out; omega)
                rw [← HMm.out] at htw
                have hc := HM.out (n - a + 1) a m n dk wr (by omega) (by have := HN.out; omega) S1.out htw ham hl3 (by omega)
                unfold MergeSays at hc
                rw [hds] at hc
                have HG := Lib.hid hc
                clear hc htw
                go_wp2_with (go_at_call 51; refine HG.out.mono ?_; rintro e w2 ⟨rfl, d2, S2, hp2, hs2'⟩)
                go_roundg (n - s2)
                case measure => omega
                case rel => exact ⟨s2, d2, rfl, by omega, by omega, Nat.le_refl _, hp2.1.trans hds, S2, Lib.hid (permIn_trans _ _ _ _ _ HP.out (permIn_mono _ _ _ _ _ _ (Nat.zero_le _) (Nat.le_refl _) (by omega) hp2)), Lib.hid (by
                  have h3 := HS2.out
                  rw [h3]
                  exact (HT.out.step HA.out (by have := HB.out; omega) (by omega) hp2 hs2').all (by rw [Nat.add_mul, Nat.one_mul, ← HA.out]; have := HB.out; omega))⟩
              · have hl3z : ¬ ((m : Int) < (n : Int)) := by omega
                go_wp2
                go_roundg (n - s2)
                case measure => omega
                case rel => exact ⟨s2, dk, rfl, by omega, by omega, Nat.le_refl _, hds, S1, HP, Lib.hid (by
                  have h3 := HS2.out
                  rw [h3]
                  exact (HT.out.step (e := n) HA.out (by have := HB.out; omega) (by omega) (permIn_refl _ _ _) (HT.out.one HA.out (by have := HMm.out; omega))).all (by rw [Nat.add_mul, Nat.one_mul, ← HA.out]; have := HB.out; omega))⟩
        · have hltz : ¬ ((s : Int) < (n : Int)) := by omega
          go_wp2
          go_end0
          exact ⟨rfl, dk, S1.out, HP.out, HR.out.all (by omega)⟩

/-- .. as it is called. -/
theorem GSortStable_any (enc : α → List Value) (cf : α → α → Int) (ixf : α → Nat) (g : Nat) (cb : Array Value) (blk off cap : Nat) (d : Array α) (w : World)
    (eg : ∀ args w, (callFunc g args).run Try.prog w = .ok (.enter g args) w) (hO : SWO (ltOf cf)) (hcmp : CmpLays Try.prog g cb enc 34 cf blk off d.size w) (R : RowK enc 34 w blk off d) (hsz : d.size < 1000000)
    (hx : ∀ p q, p < q → q < d.size → ixf d[p]! < ixf d[q]!) :
    Calls Try.prog 33 #[.slice (some ⟨blk, off, none⟩) d.size cap, .func (.func g) #[] cb] w fun e w' => e = .returned (.tuple #[]) ∧
      ∃ d', SWK enc 34 w blk off d' w' ∧ PermIn 0 d.size d d' ∧ St (ltOf cf) ixf 0 d.size d' := by
  have HG := Lib.hid (Gstable_any enc cf ixf g cb blk off cap d w eg hO hcmp R hsz hx)
  obtain ⟨n, hn⟩ : ∃ n, n = d.size := ⟨_, rfl⟩
  rw [← hn] at HG ⊢
  clear hn hcmp R hsz hx
  go_enter Try.func33, Try.ntmps33
  go_wp2_with (go_at_call 44; refine HG.out.mono ?_; rintro e w2 ⟨rfl, d2, S2, hp2, hs2⟩)
  go_end0
  exact ⟨rfl, d2, S2, hp2, hs2⟩
end
end Go.Proofs.Ytcbgpbcfpeanjaa

/- What is proved: what the walks of this seat need of layers below, merged out of the texts Trf Trg Trh Tri Trj Trk Trl Trm (of each just what is needed). Conditions: each theorem names its own. -/
import Derived.Sort.Walk0
import Derived.Lib.Bytealg
import Derived.Laws.StructEq
import Derived.Deep.RegionLaw
import Derived.Shelf.SlSortCmp.KitK
import Derived.Deep.RegionWith
import Derived.BigQuiet
import Derived.Test.YtkaeoflgnnlbeaaGreatDoorDa
import Derived.Test.YtkaeoflgnnlbeaaGreatDoorDh
import Derived.Test.YtkaeoflgnnlbeaaGreatDoorBb
import Derived.Test.YtkaeoflgnnlbeaaGreatDoorBd
import Derived.Test.YtkaeoflgnnlbeaaGreatDoorCe
import Derived.Test.YtkaeoflgnnlbeaaGreatDoorCh
set_option maxRecDepth 100000
/- What is proved: plain facts on runs that grow by twos; the library's stable sort of a list of entries: a permutation, in order, of equals as they stood. Conditions: the list lies in a block; the comparison's contract. -/
namespace Go.Proofs.YtkaeoflgnnlbeaaGreatDoor
open Go.Shelf Go.RowKit Go.Lib Go.Sort
set_option linter.unusedVariables false
section
variable {α : Type} [Inhabited α]
variable {lt : α → α → Bool} {ix : α → Nat}
/-- Runs of 20, as far as c. -/
structure Runs20 (lt : α → α → Bool) (ix : α → Nat) (c n : Nat) (d : Array α) : Prop where
  runs : ∀ t, t * 20 + 20 ≤ c → St lt ix (t * 20) (t * 20 + 20) d
  cuts : ∀ t, Cr ix (t * 20) 0 n d
  rest : ∀ p, c ≤ p → Cr ix p 0 n d
theorem Runs20.start {n : Nat} {d : Array α} (h : ∀ p q, p < q → q < n → ix d[p]! < ix d[q]!) : Runs20 lt ix 0 n d :=
  ⟨fun t ht => by omega, fun t i j _ h1 h2 h3 => h i j (by omega) h3, fun p _ i j _ h1 h2 h3 => h i j (by omega) h3⟩
theorem Runs20.rising {c n : Nat} {d : Array α} (h : Runs20 lt ix c n d) (e : Nat) (he : e ≤ n) : ∀ p q, c ≤ p → p < q → q < e → ix d[p]! < ix d[q]! :=
  fun p q h1 h2 h3 => h.rest q (by omega) p q (Nat.zero_le _) h2 (Nat.le_refl _) (by omega)
theorem Runs20.step {t0 n : Nat} {d d' : Array α} (h : Runs20 lt ix (t0 * 20) n d) (hp : PermIn (t0 * 20) (t0 * 20 + 20) d d') (hs : t0 * 20 + 20 ≤ n) (hn : n ≤ d.size) (s : St lt ix (t0 * 20) (t0 * 20 + 20) d') : Runs20 lt ix (t0 * 20 + 20) n d' := by
  refine ⟨fun t ht => ?_, fun t => ?_, fun p hpp => ?_⟩
  · by_cases e : t = t0
    · rw [e]; exact s
    · exact (h.runs t (by omega)).away hp (by omega)
  · refine (h.cuts t).perm hp (by omega) ?_
    by_cases e : t ≤ t0
    · exact .inr (.inl ⟨by omega, hs⟩)
    · exact .inl ⟨Nat.zero_le _, by omega⟩
  · exact (h.rest p (by omega)).perm hp (by omega) (.inl ⟨Nat.zero_le _, hpp⟩)
/-- Runs of s. -/
structure Runs (lt : α → α → Bool) (ix : α → Nat) (s n : Nat) (d : Array α) : Prop where
  runs : ∀ t, St lt ix (t * s) (min (t * s + s) n) d
  cuts : ∀ t, Cr ix (t * s) 0 n d
theorem Runs20.last {t0 n : Nat} {d d' : Array α} (h : Runs20 lt ix (t0 * 20) n d) (hp : PermIn (t0 * 20) n d d') (h0 : t0 * 20 ≤ n) (hs : n < t0 * 20 + 20) (hn : n ≤ d.size) (s : St lt ix (t0 * 20) n d') : Runs lt ix 20 n d' := by
  refine ⟨fun t => ?_, fun t => ?_⟩
  · by_cases e : t = t0
    · rw [e]; exact s.le (Nat.le_refl _) (Nat.min_le_right _ _)
    · by_cases e2 : t < t0
      · exact ((h.runs t (by omega)).away hp (by omega)).le (Nat.le_refl _) (Nat.min_le_left _ _)
      · exact St.short (by have := Nat.min_le_right (t * 20 + 20) n; omega)
  · refine (h.cuts t).perm hp hn ?_
    by_cases e : t ≤ t0
    · exact .inr (.inl ⟨by omega, Nat.le_refl _⟩)
    · exact .inl ⟨Nat.zero_le _, by omega⟩
/-- Runs of s, of which the first ones are merged two by two. -/
structure Twos (lt : α → α → Bool) (ix : α → Nat) (s t0 n : Nat) (d : Array α) : Prop where
  done : ∀ t, t < t0 → St lt ix (t * (2 * s)) (min (t * (2 * s) + 2 * s) n) d
  left : ∀ t, 2 * t0 ≤ t → St lt ix (t * s) (min (t * s + s) n) d
  cuts : ∀ t, Cr ix (t * (2 * s)) 0 n d
  more : ∀ t, 2 * t0 ≤ t → Cr ix (t * s) 0 n d
theorem twice_mul (t s : Nat) : t * (2 * s) = 2 * t * s := by rw [Nat.mul_left_comm, Nat.mul_assoc]
theorem Runs.twos {s n : Nat} {d : Array α} (h : Runs lt ix s n d) : Twos lt ix s 0 n d :=
  ⟨fun t ht => by omega, fun t _ => h.runs t, fun t => by rw [twice_mul]; exact h.cuts _, fun t _ => h.cuts t⟩
/-- The two runs that come next. -/
theorem Twos.two {s t0 n a e : Nat} {d : Array α} (h : Twos lt ix s t0 n d) (ha : a = t0 * (2 * s)) (he : e = min (a + 2 * s) n) (hm : a + s ≤ n) : Two lt ix a (a + s) e d := by
  have e0 : 2 * t0 * s = a := by rw [ha, twice_mul]
  have e1 : (2 * t0 + 1) * s = a + s := by rw [Nat.add_mul, e0, Nat.one_mul]
  have h1 := h.left (2 * t0) (Nat.le_refl _)
  have h2 := h.left (2 * t0 + 1) (by omega)
  have h3 := h.more (2 * t0 + 1) (by omega)
  rw [e0] at h1
  rw [e1] at h2 h3
  exact ⟨h1.le (Nat.le_refl _) (by omega), h2.le (Nat.le_refl _) (by omega), h3.le (Nat.zero_le _) (by omega)⟩
/-- The one run that is left. -/
theorem Twos.one {s t0 n a : Nat} {d : Array α} (h : Twos lt ix s t0 n d) (ha : a = t0 * (2 * s)) (hm : n ≤ a + s) : St lt ix a n d := by
  have h1 := h.left (2 * t0) (Nat.le_refl _)
  rw [show 2 * t0 * s = a by rw [ha, twice_mul]] at h1
  exact h1.le (Nat.le_refl _) (by omega)
theorem Twos.step {s t0 n a e : Nat} {d d' : Array α} (h : Twos lt ix s t0 n d) (ha : a = t0 * (2 * s)) (he : e = min (a + 2 * s) n) (hn : n ≤ d.size) (hp : PermIn a e d d') (hs : St lt ix a e d') : Twos lt ix s (t0 + 1) n d' := by
  have up : ∀ t, t0 + 1 ≤ t → a + 2 * s ≤ t * (2 * s) := fun t ht => by
    have := Nat.mul_le_mul_right (2 * s) ht
    rw [Nat.add_mul, Nat.one_mul] at this; omega
  have dn : ∀ t, t < t0 → t * (2 * s) + 2 * s ≤ a := fun t ht => by
    have := Nat.mul_le_mul_right (2 * s) (show t + 1 ≤ t0 from ht)
    rw [Nat.add_mul, Nat.one_mul] at this; omega
  have up2 : ∀ t, 2 * (t0 + 1) ≤ t → a + 2 * s ≤ t * s := fun t ht => by
    have := Nat.mul_le_mul_right s ht
    rw [← twice_mul, Nat.add_mul, Nat.one_mul] at this; omega
  have h2 : ∀ p, a + 2 * s ≤ p → Cr ix p 0 n d → Cr ix p 0 n d' := fun p h1 h => h.perm hp (by omega) (.inl ⟨Nat.zero_le _, by omega⟩)
  refine ⟨fun t ht => ?_, fun t ht => ?_, fun t => ?_, fun t ht => h2 _ (up2 t ht) (h.more t (by omega))⟩
  · by_cases e0 : t = t0
    · rw [e0, ← ha, ← he]; exact hs
    · exact (h.done t (by omega)).away hp (.inl (by have := dn t (by omega); omega))
  · have := up2 t ht
    exact (h.left t (by omega)).away hp (.inr (by omega))
  · by_cases e0 : t ≤ t0
    · refine (h.cuts t).perm hp (by omega) ?_
      have : t * (2 * s) ≤ a := by rw [ha]; exact Nat.mul_le_mul_right _ e0
      exact .inr (.inl ⟨this, by omega⟩)
    · exact h2 _ (up t (by omega)) (h.cuts t)
theorem Twos.all {s t0 n : Nat} {d : Array α} (h : Twos lt ix s t0 n d) (hn : n ≤ t0 * (2 * s)) : Runs lt ix (2 * s) n d := by
  refine ⟨fun t => ?_, h.cuts⟩
  by_cases e : t < t0
  · exact h.done t e
  · refine St.short ?_
    have := Nat.mul_le_mul_right (2 * s) (show t0 ≤ t by omega)
    omega
theorem Runs.all {s n : Nat} {d : Array α} (h : Runs lt ix s n d) (hn : n ≤ s) : St lt ix 0 n d := by
  have := h.runs 0
  rw [Nat.zero_mul] at this
  exact this.le (Nat.le_refl _) (by omega)
set_option maxHeartbeats 8000000 in
set_option maxRecDepth 1000000 in
/-- The stable sort. -/
theorem Gstable_any (enc : α → List Value) (cf : α → α → Int) (ixf : α → Nat) (g : Nat) (cb : Array Value) (blk off cap : Nat) (d : Array α) (w : World)
    (eg : ∀ args w, (callFunc g args).run Tryz.prog w = .ok (.enter g args) w) (hO : SWO (ltOf cf)) (hcmp : CmpLays Tryz.prog g cb enc 34 cf blk off d.size w) (R : RowK enc 34 w blk off d) (hsz : d.size < 1000000)
    (hx : ∀ p q, p < q → q < d.size → ixf d[p]! < ixf d[q]!) :
    Calls Tryz.prog 224 #[.slice (some ⟨blk, off, none⟩) d.size cap, .int .i64 d.size, .func (.func g) #[] cb] w fun e w' => e = .returned (.tuple #[]) ∧
      ∃ d', SWK enc 34 w blk off d' w' ∧ PermIn 0 d.size d d' ∧ St (ltOf cf) ixf 0 d.size d' := by
  have HC : Aside _ := hcmp
  have S0 : Aside (SWK enc 34 w blk off d w) := SWK.start R.hH
  have HX := Lib.hid (Runs20.start (lt := ltOf cf) hx)
  have HM := Lib.hid (GsymMerge_any enc cf ixf g cb blk off cap d w eg hO hcmp R hsz)
  have HI := Lib.hid (fun a b dk wr hs S hx hab hb => Ginsertion_any enc cf g cb blk off cap a b d dk w wr eg hcmp R hs S hO ixf hx hab hb (by omega))
  obtain ⟨n, hn⟩ : ∃ n, n = d.size := ⟨_, rfl⟩
  have HN := Lib.hid hn
  rw [← hn] at hsz ⊢
  clear hcmp hx hn
  go_enter Tryz.func224, Tryz.ntmps224
  go_wp2
  go_loopg [7, 8] n (fun kx s7 s8 wr => ∃ (t : Nat) (dk : Array α), s7 = .int .i64 ((t * 20 : Nat) : Int) ∧ s8 = .int .i64 ((t * 20 + 20 : Nat) : Int) ∧ t * 20 ≤ n ∧ n - t * 20 ≤ kx ∧ dk.size = n ∧ Aside (SWK enc 34 w blk off dk wr) ∧ Hid (PermIn 0 n d dk) ∧ Hid (Runs20 (ltOf cf) ixf (t * 20) n dk))
  case atStart => exact ⟨0, d, by simp, by simp, by omega, by omega, HN.out.symm, S0, Lib.hid (permIn_refl _ _ _), Lib.hid (by have := HX.out; rw [HN.out]; exact this)⟩
  case round =>
    clear S0
    obtain ⟨t, dk, rfl, rfl, htn, hkx, hds, S1, HP, HR⟩ := hrel
    obtain ⟨a, ha⟩ : ∃ a, a = t * 20 := ⟨_, rfl⟩
    rw [← ha] at htn hkx
    rw [show t * 20 + 20 = a + 20 by omega, ← ha]
    have HA := Lib.hid ha
    clear ha
    by_cases hlt : a + 20 ≤ n
    · have hltz : (a : Int) + 20 ≤ (n : Int) := by omega
      have hc := HI.out a (a + 20) dk wr (by have := HN.out; omega) S1.out (HR.out.rising (a + 20) hlt |> fun h => by rw [← HA.out] at h; exact h) (by omega) (by omega)
      rw [hds] at hc
      have HG := Lib.hid hc
      clear hc
      go_wp2_with (go_at_call 227; refine HG.out.mono ?_; rintro e w2 ⟨rfl, d2, S2, hs2, hp2⟩)
      go_roundg (n - (a + 20))
      case measure => omega
      case rel =>
        have hA := HA.out
        subst hA
        exact ⟨t + 1, d2, by simp [Nat.add_mul], by simp [Nat.add_mul], by omega, by omega, hp2.1.trans hds, S2, Lib.hid (permIn_trans _ _ _ _ _ HP.out (permIn_mono _ _ _ _ _ _ (Nat.zero_le _) hlt (by omega) hp2)), Lib.hid (by rw [Nat.add_mul, Nat.one_mul]; exact HR.out.step hp2 hlt (by omega) hs2)⟩
    · have hltz : ¬ ((a : Int) + 20 ≤ (n : Int)) := by omega
      have hc := HI.out a n dk wr (by have := HN.out; omega) S1.out (HR.out.rising n (Nat.le_refl _) |> fun h => by rw [← HA.out] at h; exact h) htn (by omega)
      rw [hds] at hc
      have HG := Lib.hid hc
      clear hc
      go_wp2_with (go_at_call 227; refine HG.out.mono ?_; rintro e w2 ⟨rfl, d2, S2, hs2, hp2⟩)
      have HR2 : Hid (Runs (ltOf cf) ixf 20 n d2) := Lib.hid (by have := HA.out; subst this; exact HR.out.last hp2 htn (by omega) (by omega) hs2)
      have HP2 := Lib.hid (permIn_trans _ _ _ _ _ HP.out (permIn_mono _ _ _ _ _ _ (Nat.zero_le _) (Nat.le_refl _) (by omega) hp2))
      have hd2 : d2.size = n := hp2.1.trans hds
      have S3 : Aside (SWK enc 34 w blk off d2 w2) := S2
      clear hp2 hs2 HP HR S1 S2 HG HA hds
      go_loopg [6] n (fun kx s6 wr => ∃ (s : Nat) (dk : Array α), s6 = .int .i64 s ∧ 20 ≤ s ∧ s ≤ 2000000 ∧ n - s ≤ kx ∧ dk.size = n ∧ Aside (SWK enc 34 w blk off dk wr) ∧ Hid (PermIn 0 n d dk) ∧ Hid (Runs (ltOf cf) ixf s n dk))
      case atStart => exact ⟨20, d2, rfl, by omega, by omega, by omega, hd2, S3, HP2, HR2⟩
      case round =>
        clear S3 HP2 HR2 hd2 d2 dk hlt htn hkx hltz
        obtain ⟨s, dk, rfl, hs20, hs2m, hkx, hds, S1, HP, HR⟩ := hrel
        by_cases hlt : s < n
        · have hltz : (s : Int) < (n : Int) := by omega
          obtain ⟨s2, hs2⟩ : ∃ x, x = 2 * s := ⟨_, rfl⟩
          have hs2z : (2 : Int) * (s : Int) = (s2 : Int) := by omega
          have hs3z : (s : Int) * (2 : Int) = (s2 : Int) := by omega
          have hss1 : s < s2 := by omega
          have hss3 : s2 ≤ 2000000 := by omega
          have HS2 := Lib.hid hs2
          clear hs2
          go_wp2
          go_loopg [7, 8] n (fun kx s7 s8 wr => ∃ (t a b : Nat) (dk : Array α), s7 = .int .i64 a ∧ s8 = .int .i64 b ∧ Hid (b = a + s2) ∧ a ≤ b ∧ b ≤ 5000000 ∧ Hid (a = t * (2 * s)) ∧ a ≤ n ∧ n - a ≤ kx ∧ dk.size = n ∧ Aside (SWK enc 34 w blk off dk wr) ∧ Hid (PermIn 0 n d dk) ∧ Hid (Twos (ltOf cf) ixf s t n dk))
          case atStart => exact ⟨0, 0, s2, dk, rfl, rfl, Lib.hid (by omega), by omega, by omega, Lib.hid (by omega), by omega, by omega, hds, S1, HP, Lib.hid HR.out.twos⟩
          case round =>
            clear S1 HP HR hds dk
            obtain ⟨t, a, b, dk, rfl, rfl, HB, hab, hbm, HA, han, hkx2, hds, S1, HP, HT⟩ := hrel
            obtain ⟨m, hm⟩ : ∃ m, m = a + s := ⟨_, rfl⟩
            have hmz : (a : Int) + (s : Int) = (m : Int) := by omega
            have HMm := Lib.hid hm
            have ham : a < m := by omega
            have hmb : m < b := by have := HB.out; omega
            clear hm
            by_cases hl2 : b ≤ n
            · have hl2z : (b : Int) ≤ (n : Int) := by omega
              have htw := HT.out.two (a := a) (e := b) HA.out (by have := HB.out; have := HS2.out; omega) (by have := HMm.out; omega)
              rw [← HMm.out] at htw
              have hc := HM.out (b - a + 1) a m b dk wr (by omega) (by have := HN.out; omega) S1.out htw ham hmb (by omega)
              unfold MergeSays at hc
              rw [hds] at hc
              have HG := Lib.hid hc
              clear hc htw
              go_wp2_with (go_at_call 228; refine HG.out.mono ?_; rintro e w2 ⟨rfl, d2, S2, hp2, hs2'⟩)
              go_roundg (n - b)
              case measure => omega
              case rel => exact ⟨t + 1, b, b + s2, d2, rfl, by go_num, Lib.hid rfl, by omega, by omega, Lib.hid (by have h1 := HA.out; have h2 := HB.out; have h3 := HS2.out; rw [Nat.add_mul, Nat.one_mul, ← h1]; omega), hl2, Nat.le_refl _, hp2.1.trans hds, S2, Lib.hid (permIn_trans _ _ _ _ _ HP.out (permIn_mono _ _ _ _ _ _ (Nat.zero_le _) hl2 (by omega) hp2)), Lib.hid (HT.out.step HA.out (by have := HB.out; have := HS2.out; omega) (by omega) hp2 hs2')⟩
            · have hl2z : ¬ ((b : Int) ≤ (n : Int)) := by omega
              by_cases hl3 : m < n
              · have hl3z : (m : Int) < (n : Int) := by omega
                have htw := HT.out.two (a := a) (e := n) HA.out (by have := HB.out; have := HS2.out; omega) (by have := HMm.out; omega)
                rw [← HMm.out] at htw
                have hc := HM.out (n - a + 1) a m n dk wr (by omega) (by have := HN.out; omega) S1.out htw ham hl3 (by omega)
                unfold MergeSays at hc
                rw [hds] at hc
                have HG := Lib.hid hc
                clear hc htw
                go_wp2_with (go_at_call 228; refine HG.out.mono ?_; rintro e w2 ⟨rfl, d2, S2, hp2, hs2'⟩)
                go_roundg (n - s2)
                case measure => omega
                case rel => exact ⟨s2, d2, rfl, by omega, by omega, Nat.le_refl _, hp2.1.trans hds, S2, Lib.hid (permIn_trans _ _ _ _ _ HP.out (permIn_mono _ _ _ _ _ _ (Nat.zero_le _) (Nat.le_refl _) (by omega) hp2)), Lib.hid (by
                  have h3 := HS2.out
                  rw [h3]
                  exact (HT.out.step HA.out (by have := HB.out; omega) (by omega) hp2 hs2').all (by rw [Nat.add_mul, Nat.one_mul, ← HA.out]; have := HB.out; omega))⟩
              · have hl3z : ¬ ((m : Int) < (n : Int)) := by omega
                go_wp2
                go_roundg (n - s2)
                case measure => omega
                case rel => exact ⟨s2, dk, rfl, by omega, by omega, Nat.le_refl _, hds, S1, HP, Lib.hid (by
                  have h3 := HS2.out
                  rw [h3]
                  exact (HT.out.step (e := n) HA.out (by have := HB.out; omega) (by omega) (permIn_refl _ _ _) (HT.out.one HA.out (by have := HMm.out; omega))).all (by rw [Nat.add_mul, Nat.one_mul, ← HA.out]; have := HB.out; omega))⟩
        · have hltz : ¬ ((s : Int) < (n : Int)) := by omega
          go_wp2
          go_end0
          exact ⟨rfl, dk, S1.out, HP.out, HR.out.all (by omega)⟩
/-- .. as it is called. -/
theorem GSortStable_any (enc : α → List Value) (cf : α → α → Int) (ixf : α → Nat) (g : Nat) (cb : Array Value) (blk off cap : Nat) (d : Array α) (w : World)
    (eg : ∀ args w, (callFunc g args).run Tryz.prog w = .ok (.enter g args) w) (hO : SWO (ltOf cf)) (hcmp : CmpLays Tryz.prog g cb enc 34 cf blk off d.size w) (R : RowK enc 34 w blk off d) (hsz : d.size < 1000000)
    (hx : ∀ p q, p < q → q < d.size → ixf d[p]! < ixf d[q]!) :
    Calls Tryz.prog 216 #[.slice (some ⟨blk, off, none⟩) d.size cap, .func (.func g) #[] cb] w fun e w' => e = .returned (.tuple #[]) ∧
      ∃ d', SWK enc 34 w blk off d' w' ∧ PermIn 0 d.size d d' ∧ St (ltOf cf) ixf 0 d.size d' := by
  have HG := Lib.hid (Gstable_any enc cf ixf g cb blk off cap d w eg hO hcmp R hsz hx)
  obtain ⟨n, hn⟩ : ∃ n, n = d.size := ⟨_, rfl⟩
  rw [← hn] at HG ⊢
  clear hn hcmp R hsz hx
  go_enter Tryz.func216, Tryz.ntmps216
  go_wp2_with (go_at_call 224; refine HG.out.mono ?_; rintro e w2 ⟨rfl, d2, S2, hp2, hs2⟩)
  go_end0
  exact ⟨rfl, d2, S2, hp2, hs2⟩
end
end Go.Proofs.YtkaeoflgnnlbeaaGreatDoor
/- What is proved: plain facts on entries: texts in order, keys, an entry's cells, entries in a row, two entries held against one another whole. Conditions: none. -/
namespace Go.Proofs.YtkaeoflgnnlbeaaGreatDoor
open Go.RowKit Go.Sort
set_option linter.unusedVariables false
/-! Texts in order. -/
def ltB (x y : List UInt8) : Bool := Op.bytesLess x y
theorem ltB_eq (x y : List UInt8) : ltB x y = decide (x < y) := bytesLess_eq x y
theorem ltB_nil (x : List UInt8) : ltB x [] = false := by rw [ltB_eq]; simp
theorem ltB_cons (a b : UInt8) (x y : List UInt8) : ltB (a :: x) (b :: y) = (decide (a < b) || (a == b && ltB x y)) := by
  rw [ltB_eq, ltB_eq, Bool.eq_iff_iff]
  simp [List.cons_lt_cons_iff]
theorem ltB_irrefl (x : List UInt8) : ltB x x = false := by
  induction x with
  | nil => exact ltB_nil _
  | cons a x ih => rw [ltB_cons, ih]; simp
theorem cmp_lt : ∀ (x y : List UInt8), decide (Lib.compareBytes x y < 0) = ltB x y
  | [], [] => by rw [ltB_nil]; rfl
  | [], b :: y => by rw [ltB_eq]; simp [Lib.compareBytes]
  | a :: x, [] => by rw [ltB_nil]; rfl
  | a :: x, b :: y => by
    rw [Lib.compareBytes, ltB_cons, ← cmp_lt x y]
    by_cases h1 : a < b
    · simp [h1]
    · rw [if_neg h1]
      by_cases h2 : b < a
      · have h3 : ¬ a = b := fun e => by subst e; exact h1 h2
        simp [h1, h2, h3]
      · have h3 : a = b := UInt8.le_antisymm (UInt8.not_lt.1 h2) (UInt8.not_lt.1 h1)
        simp [h3]
theorem ltB_trans : ∀ (x y z : List UInt8), ltB x y = true → ltB y z = true → ltB x z = true
  | _, _, [], _, h2 => by rw [ltB_nil] at h2; cases h2
  | _, [], _ :: _, h1, _ => by rw [ltB_nil] at h1; cases h1
  | [], _ :: _, _ :: _, _, _ => by rw [ltB_eq]; simp
  | a :: x, b :: y, c :: z, h1, h2 => by
    rw [ltB_cons] at *
    simp only [Bool.or_eq_true, decide_eq_true_eq, Bool.and_eq_true, beq_iff_eq] at *
    rcases h1 with h1 | ⟨rfl, h1⟩
    · rcases h2 with h2 | ⟨rfl, h2⟩
      · exact .inl (UInt8.lt_trans h1 h2)
      · exact .inl h1
    · rcases h2 with h2 | ⟨rfl, h2⟩
      · exact .inl h2
      · exact .inr ⟨rfl, ltB_trans x y z h1 h2⟩
theorem ltB_total : ∀ (x y : List UInt8), ltB x y = false → ltB y x = false → x = y
  | [], [], _, _ => rfl
  | [], b :: y, h1, _ => by rw [ltB_eq] at h1; simp at h1
  | a :: x, [], _, h2 => by rw [ltB_eq] at h2; simp at h2
  | a :: x, b :: y, h1, h2 => by
    rw [ltB_cons] at *
    simp only [Bool.or_eq_false_iff, decide_eq_false_iff_not, Bool.and_eq_false_iff, beq_eq_false_iff_ne, ne_eq] at h1 h2
    have e : a = b := UInt8.le_antisymm (UInt8.not_lt.1 h2.1) (UInt8.not_lt.1 h1.1)
    subst e
    rw [ltB_total x y (by rcases h1.2 with h | h; exact absurd rfl h; exact h) (by rcases h2.2 with h | h; exact absurd rfl h; exact h)]
theorem ltB_ntrans (x y z : List UInt8) (h1 : ltB x y = false) (h2 : ltB y z = false) : ltB x z = false := by
  cases e : ltB x z with
  | false => rfl
  | true =>
    cases e2 : ltB y x with
    | true => have := ltB_trans y x z e2 e; rw [h2] at this; cases this
    | false => rw [ltB_total x y h1 e2] at e; rw [h2] at e; cases e
/-! Entries. -/
structure EntTr where
  name : List UInt8
  mode : Int
  id : List UInt8
  hn : name.length ≤ 140737488355327
  hm : -9223372036854775808 ≤ mode ∧ mode ≤ 9223372036854775807
  hi : id.length = 32
instance : Inhabited EntTr := ⟨⟨[], 0, List.replicate 32 0, by decide, by decide, by decide⟩⟩
/-- What an entry stands in order by. -/
def keyE (e : EntTr) : List UInt8 := if e.mode = 3 then e.name ++ [47] else e.name
def keyCmp (a b : EntTr) : Int := Lib.compareBytes (keyE a) (keyE b)
def nameCmp (a b : EntTr) : Int := Lib.compareBytes a.name b.name
theorem ltOf_key (a b : EntTr) : ltOf keyCmp a b = ltB (keyE a) (keyE b) := cmp_lt _ _
theorem ltOf_name (a b : EntTr) : ltOf nameCmp a b = ltB a.name b.name := cmp_lt _ _
theorem swoB {α : Type} (f : α → List UInt8) : SWO (fun a b => ltB (f a) (f b)) := ⟨fun x => ltB_irrefl _, fun x y z => ltB_trans _ _ _, fun x y z => ltB_ntrans _ _ _⟩
/-- An entry's cells. -/
def entV (e : EntTr) : List Value := .string (strB e.name) :: .int .i64 e.mode :: bytesV e.id
theorem entV_len (e : EntTr) : (entV e).length = 34 := by simp [entV, bytesV_length, e.hi]
theorem entV_one (e : EntTr) : ∀ v ∈ entV e, v.oneCell' = true := by
  intro v hv
  rcases List.mem_cons.1 hv with rfl | hv
  · rfl
  · rcases List.mem_cons.1 hv with rfl | hv
    · rfl
    · exact bytesV_one _ _ hv
def flatE (es : List EntTr) : List Value := es.flatMap entV
theorem flatE_cons (e : EntTr) (es : List EntTr) : flatE (e :: es) = entV e ++ flatE es := rfl
theorem flatE_append (a b : List EntTr) : flatE (a ++ b) = flatE a ++ flatE b := List.flatMap_append
theorem flatE_len (es : List EntTr) : (flatE es).length = es.length * 34 := by
  induction es with
  | nil => rfl
  | cons e es ih => rw [flatE_cons, List.length_append, ih, entV_len, List.length_cons]; omega
theorem flatE_one (es : List EntTr) : ∀ u ∈ flatE es, u.oneCell' = true := fun u hu => by
  obtain ⟨e, _, he⟩ := List.mem_flatMap.1 hu
  exact entV_one e u he
theorem flatE_get (es : List EntTr) (i j : Nat) (e : EntTr) (h : es[i]? = some e) (hj : j < 34) : (flatE es)[i * 34 + j]? = (entV e)[j]? := by
  induction es generalizing i with
  | nil => simp at h
  | cons m es ih =>
    rw [flatE_cons]
    have hl := entV_len m
    cases i with
    | zero =>
      simp at h
      subst h
      rw [List.getElem?_append_left (by omega), Nat.zero_mul, Nat.zero_add]
    | succ i =>
      rw [List.getElem?_append_right (by omega), hl, show (i + 1) * 34 + j - 34 = i * 34 + j by omega]
      exact ih i (by simpa using h)
section
variable {w w' : World} {b o : Nat} {es : List EntTr} {i : Nat} {e : EntTr}
/-- Cell j of entry i. -/
theorem cell_ent (h : Lies w (some ⟨b, o, none⟩) (flatE es)) (hi : es[i]? = some e) (f : Fr (fun _ => False) w w') (j : Nat) (v : Value) (hv : (entV e)[j]? = some v) : w'.cell? ⟨b, o + i * 34 + j, none⟩ = some v := by
  have hj : j < 34 := by
    have := (List.getElem?_eq_some_iff.1 hv).1
    rwa [entV_len] at this
  have hg := flatE_get es i j e hi hj
  rw [hv] at hg
  rcases h with h | ⟨b', o', hA, hc⟩
  · rw [h] at hg; simp at hg
  · cases hA
    rw [Nat.add_assoc]
    exact f.cell (hc _ _ hg) (fun e => e)
theorem name_at (h : Lies w (some ⟨b, o, none⟩) (flatE es)) (hi : es[i]? = some e) (f : Fr (fun _ => False) w w') : w'.cell? ⟨b, o + i * 34, none⟩ = some (.string (strB e.name)) := cell_ent h hi f 0 _ rfl
/-- One entry of a list is read. -/
theorem load_ent (h : Lies w (some ⟨b, o, none⟩) (flatE es)) (hi : es[i]? = some e) (f : Fr (fun _ => False) w w') (n : Nat) (hn : n = 34) : (loadCellsFrom ⟨b, o + i * 34, none⟩ 0 n #[]).run Tryz.prog w' = .ok (entV e).toArray w' := by
  have h2 := run_loadCells_list (P := Tryz.prog) w' ⟨b, o + i * 34, none⟩ (entV e) (fun j v hv => by
    rw [add_off]
    exact cell_ent h hi f j v hv)
  rw [entV_len] at h2
  rw [hn]
  simpa [loadCells] using h2
end
theorem some_of_mem {es : List EntTr} {i : Nat} (h : i < es.length) : es[i]? = some es[i]! := by
  rw [List.getElem?_eq_getElem h, getElem!_pos es i h]
/-! Two entries held against one another whole. -/
theorem run_equal_ints {P : Program} (w : World) (d : Nat) (t e : TypeId) (n : Nat) (k : IntKind) (ht : P.underlying t = some (.array n e)) (he : P.underlying e = some (.int k)) (hsz : ∀ w, (sizeOf e).run P w = .ok 1 w)
    (zs ys : List Int) (hz : zs.length = n) (hy : ys.length = n) : (Op.equalIn (d + 2) t (.agg (zs.map (Value.int k)).toArray) (.agg (ys.map (Value.int k)).toArray)).run P w = .ok (decide (zs = ys)) w := by
  rw [Op.equalIn]
  simp only [Sem.run_bind, run_underlying ht, Result.andThen_ok, hsz, Std.Legacy.Range.forIn_eq_forIn_range', Std.Legacy.Range.size, Nat.sub_zero, Nat.add_sub_cancel, Nat.div_one]
  have px : ∀ (xs : List Int) (i : Nat), i < xs.length → (part e (xs.map (Value.int k)).toArray (i * 1)).run P w = .ok (.int k (xs.getD i 0)) w := fun xs i hi => by
    simp [part, isAgg, run_underlying he, List.getD, List.getElem?_eq_getElem hi]
  have pe : ∀ i, (Op.equalIn (d + 1) e (.int k (zs.getD i 0)) (.int k (ys.getD i 0))).run P w = .ok (zs.getD i 0 == ys.getD i 0) w := fun i => run_equalIn_int w d e k k _ _ he
  have hall : ∀ m o, o + m = n → (∀ i, i < o → zs.getD i 0 = ys.getD i 0) → (decide (zs = ys)) = (List.range' o m 1).all (fun i => zs.getD i 0 == ys.getD i 0) := by
    intro m o ho hp
    rw [Bool.eq_iff_iff]
    simp only [decide_eq_true_eq, List.all_eq_true, beq_iff_eq]
    constructor
    · rintro rfl i _; rfl
    · intro h
      apply List.ext_getElem (by omega)
      intro i h1 h2
      have : zs.getD i 0 = ys.getD i 0 := by
        rcases Nat.lt_or_ge i o with h3 | h3
        · exact hp i h3
        · exact h i (by rw [List.mem_range'_1]; omega)
      simpa [List.getD, List.getElem?_eq_getElem h1, List.getElem?_eq_getElem h2] using this
  rw [hall n 0 (by omega) (fun i hi => by omega)]
  have hl : ∀ i ∈ List.range' 0 n 1, i < n := fun i hi => by simpa using (List.mem_range'_1.1 hi).2
  generalize List.range' 0 n 1 = l at hl ⊢
  clear hall
  induction l with
  | nil => simp
  | cons i l ih =>
    have hi : i < n := hl i (by simp)
    simp only [List.forIn_cons, Sem.run_bind, px zs i (by omega), px ys i (by omega), pe i, Result.andThen_ok, List.all_cons]
    cases hc : (zs.getD i 0 == ys.getD i 0)
    · simp only [Bool.not_false, if_true, Sem.run_pure, Result.andThen_ok, Bool.false_and]
    · simp only [Bool.not_true, Bool.false_eq_true, if_false, Sem.run_pure, Result.andThen_ok, Bool.true_and]
      exact ih fun j hj => hl j (by simp [hj])
theorem underE : Tryz.prog.underlying 212 = some (.struct (Tryz.prog.fieldsOf 212)) := by kernel_rfl
end Go.Proofs.YtkaeoflgnnlbeaaGreatDoor
/- What is proved: an entry's key, and which of two entries stands behind the other, by the program and by the document. Conditions: none. -/
namespace Go.Proofs.YtkaeoflgnnlbeaaGreatDoor
open Go.RowKit Go.Sort Go.Shelf
set_option linter.unusedVariables false
theorem info_ent : (Tryz.prog.info? 212).map (fun i => (i.zero, i.size, i.bytes)) = some (some (.agg (entV default).toArray), 34, 56) := by kernel_rfl
set_option maxHeartbeats 1600000 in
theorem Tkey_grow (e : EntTr) (w : World) : Calls Tryz.prog 182 #[.agg (entV e).toArray] w fun r w' => r = .returned (.string (strB (keyE e))) ∧ ∃ q os', w' = grow (w.drewN q) os' := by
  (
    have hone := fun w => join_one (P := Tryz.prog) e.name (by have := e.hn; omega) w
    obtain ⟨ca, hca⟩ : ∃ c, (entV e).toArray = c := ⟨_, rfl⟩
    obtain ⟨w1, hw1⟩ : ∃ w1, w.alloc (.cells ca 212) = w1 := ⟨_, rfl⟩
    have hW : Whole w1 w.heap.size 212 ca := by subst hw1; exact Whole.new w 212 _
    have c0 : w1.cell? ⟨w.heap.size, 0, none⟩ = some (.string (strB e.name)) := by rw [hW.cell, ← hca]; rfl
    have c1 : w1.cell? ⟨w.heap.size, 1, none⟩ = some (.int .i64 e.mode) := by rw [hW.cell, ← hca]; rfl
    have HG : Hid (∃ q os', w1 = grow (w.drewN q) os') := Lib.hid ⟨0, #[.cells ca 212], by rw [← hw1, alloc_eq_grow]; rfl⟩
    obtain ⟨S, hS⟩ : ∃ S, strB e.name = S := ⟨_, rfl⟩
    obtain ⟨S1, hS1⟩ : ∃ S, strB (e.name ++ [47]) = S := ⟨_, rfl⟩
    have HK : Hid (strB (keyE e) = if e.mode = 3 then S1 else S) := Lib.hid (by rw [keyE]; split <;> simp [*])
    obtain ⟨K, hK⟩ : ∃ K, strB (keyE e) = K := ⟨_, rfl⟩
    obtain ⟨m, hm⟩ : ∃ m, e.mode = m := ⟨_, rfl⟩
    rw [hS, hS1] at hone
    rw [hS] at c0
    rw [hm] at c1 HK
    rw [hK] at HK ⊢
    rw [hca]
    clear hca hW hS hS1 hK hm
    go_enter Tryz.func182, Tryz.ntmps182
    by_cases h3 : m = 3
    · go_wp2
      go_ret
      exact ⟨by rw [HK.out, if_pos h3]; rfl, HG.out⟩
    · go_wp2
      go_ret
      exact ⟨by rw [HK.out, if_neg h3]; rfl, HG.out⟩)
set_option maxHeartbeats 1000000 in
set_option maxRecDepth 100000 in
theorem GbCompareString_any (a b : List UInt8) (w : World) : Calls Tryz.prog 202 #[.string (strB a), .string (strB b)] w fun e w' => e = .returned (.int .i64 (Lib.compareBytes a b)) ∧ w' = w := by
  have hr := Lib.hid (Lib.run_compareString (P := Tryz.prog) (strB a) (strB b) w)
  rw [strB_data, strB_data] at hr
  obtain ⟨S, hS⟩ : ∃ S, strB a = S := ⟨_, rfl⟩
  obtain ⟨S2, hS2⟩ : ∃ S, strB b = S := ⟨_, rfl⟩
  rw [hS, hS2] at hr ⊢
  clear hS hS2
  go_enter Tryz.func202, Tryz.ntmps202
  go_wp2
  rw [run_callFunc_extern Tryz.func217 (by kernel_rfl) (by kernel_rfl) (by kernel_rfl) (e := Extern.BytealgCompare.compare) (by kernel_rfl), hr.out]
  simp only [Result.andThen]
  rw [Oper.upon_value]
  go_wp2
  go_ret
  exact ⟨rfl, rfl⟩
set_option maxHeartbeats 1000000 in
theorem GsCompare_any (a b : List UInt8) (w : World) : Calls Tryz.prog 181 #[.string (strB a), .string (strB b)] w fun e w' => e = .returned (.int .i64 (Lib.compareBytes a b)) ∧ w' = w := by
  have hc := Lib.hid (GbCompareString_any a b w)
  go_enter Tryz.func181, Tryz.ntmps181
  go_wp2_with (go_at_call 202; refine hc.out.mono ?_; rintro e w' ⟨rfl, rfl⟩)
  go_ret
  exact ⟨rfl, rfl⟩
set_option maxHeartbeats 1600000 in
/-- compareKeys, to the world's last draw. -/
theorem TcompareKeys_grow (x y : EntTr) (w : World) : Calls Tryz.prog 165 #[.agg (entV x).toArray, .agg (entV y).toArray] w fun e w' => e = .returned (.int .i64 (keyCmp x y)) ∧ ∃ q os', w' = grow (w.drewN q) os' := by
  have k1 := fun w => Tkey_grow x w
  have k2 := fun w => Tkey_grow y w
  (
    obtain ⟨T, hT⟩ : ∃ T : TypeId, T = 212 := ⟨_, rfl⟩
    obtain ⟨kn, hk⟩ : ∃ n : Nat, n = 34 := ⟨_, rfl⟩
    have aE : ∀ w, (isAgg T).run Tryz.prog w = .ok true w := by rw [hT]; exact fun _ => by kernel_rfl
    have zE : ∀ w, (sizeOf T).run Tryz.prog w = .ok kn w := by rw [hT, hk]; exact fun _ => by kernel_rfl
    have mixed : Tryz.prog.follows .mixedOrders = true := by kernel_rfl
    obtain ⟨w1, hw1⟩ : ∃ w1, w.alloc (.cells (entV x).toArray 212) = w1 := ⟨_, rfl⟩
    obtain ⟨w2, hw2⟩ : ∃ w2, w1.alloc (.cells (entV y).toArray 212) = w2 := ⟨_, rfl⟩
    have hF2 : Fr (fun _ => False) w1 w2 := by subst hw2; exact (Fr.refl _ w1).alloc _
    have hA : Whole w2 w.heap.size 212 (entV x).toArray := by subst hw1; exact (Whole.new w 212 _).fr hF2 (fun e => e)
    have hB : Whole w2 w1.heap.size 212 (entV y).toArray := by subst hw2; exact Whole.new w1 212 _
    have HG := Lib.hid (show ∀ n os, grow (w2.drewN n) os = grow (w.drewN n) (#[.cells (entV x).toArray 212, .cells (entV y).toArray 212] ++ os) from fun n os => by
      rw [← hw2, ← hw1, alloc_eq_grow, alloc_eq_grow, grow_grow]
      show grow (grow (w.drewN n) (#[_] ++ #[_])) os = _
      rw [grow_grow]; rfl)
    have hl : ∀ (e : EntTr) (g : Nat), Whole w2 g 212 (entV e).toArray → ∀ n os, Sem.run Tryz.prog (loadCellsFrom ⟨g, 0, none⟩ 0 kn #[]) (grow (w2.drewN n) os) = .ok (entV e).toArray (grow (w2.drewN n) os) := fun e g hg n os => by
      have h2 := run_loadCells_list (P := Tryz.prog) (grow (w2.drewN n) os) ⟨g, 0, none⟩ (entV e) (fun j v hv => by
        rw [add_off, Nat.zero_add]
        exact cell_grown (a := ⟨g, j, none⟩) hg.lt (by rw [hg.cell, List.getElem?_toArray]; exact hv) n os)
      rw [entV_len] at h2
      rw [hk]
      simpa [loadCells] using h2
    have l1 := hl x _ hA
    have l2 := hl y _ hB
    have HC := Lib.hid (fun w => GsCompare_any (keyE x) (keyE y) w)
    have HR : Hid (keyCmp x y = Lib.compareBytes (keyE x) (keyE y)) := Lib.hid rfl
    obtain ⟨cx, hcx⟩ : ∃ c, (entV x).toArray = c := ⟨_, rfl⟩
    obtain ⟨cy, hcy⟩ : ∃ c, (entV y).toArray = c := ⟨_, rfl⟩
    obtain ⟨sx, hsx⟩ : ∃ s, strB (keyE x) = s := ⟨_, rfl⟩
    obtain ⟨sy, hsy⟩ : ∃ s, strB (keyE y) = s := ⟨_, rfl⟩
    obtain ⟨r, hr⟩ : ∃ r, Lib.compareBytes (keyE x) (keyE y) = r := ⟨_, rfl⟩
    rw [HR.out, hr])
  rw [hcx] at hw1 l1 k1 HG ⊢
  rw [hcy] at hw2 l2 k2 HG ⊢
  rw [hsx] at HC k1
  rw [hsy] at HC k2
  rw [hr] at HC
  clear hA hB hF2 hl hcx hcy hsx hsy hr hk HR
  go_enter Tryz.func165, Tryz.ntmps165
  rw [show Op.load 212 (.tmp 2) = Op.load T (.tmp 2) by rw [hT], show Op.load 212 (.tmp 3) = Op.load T (.tmp 3) by rw [hT]]
  clear hT
  go_wp2_with fail
  go_quiet_grown (first
    | (go_at_call 181; refine Calls.grown_of ((HC.out _).mono fun _ _ ⟨h1, h2⟩ => ⟨h1, 0, #[], by rw [h2, grow_empty]; rfl⟩))
    | (go_at_call_of 182 (Value.agg cx); refine Calls.grown_of (k1 _))
    | (go_at_call_of 182 (Value.agg cy); refine Calls.grown_of (k2 _)))
  go_wp2_with fail
  go_ret
  exact ⟨rfl, _, _, HG.out _ _⟩
set_option maxHeartbeats 1600000 in
/-- compareNames, to the world's last draw. -/
theorem TcompareNames_grow (x y : EntTr) (w : World) : Calls Tryz.prog 201 #[.agg (entV x).toArray, .agg (entV y).toArray] w fun e w' => e = .returned (.int .i64 (nameCmp x y)) ∧ ∃ q os', w' = grow (w.drewN q) os' := by
  (
    obtain ⟨T, hT⟩ : ∃ T : TypeId, T = 212 := ⟨_, rfl⟩
    obtain ⟨kn, hk⟩ : ∃ n : Nat, n = 34 := ⟨_, rfl⟩
    have aE : ∀ w, (isAgg T).run Tryz.prog w = .ok true w := by rw [hT]; exact fun _ => by kernel_rfl
    have zE : ∀ w, (sizeOf T).run Tryz.prog w = .ok kn w := by rw [hT, hk]; exact fun _ => by kernel_rfl
    have mixed : Tryz.prog.follows .mixedOrders = true := by kernel_rfl
    obtain ⟨w1, hw1⟩ : ∃ w1, w.alloc (.cells (entV x).toArray 212) = w1 := ⟨_, rfl⟩
    obtain ⟨w2, hw2⟩ : ∃ w2, w1.alloc (.cells (entV y).toArray 212) = w2 := ⟨_, rfl⟩
    have hF2 : Fr (fun _ => False) w1 w2 := by subst hw2; exact (Fr.refl _ w1).alloc _
    have hA : Whole w2 w.heap.size 212 (entV x).toArray := by subst hw1; exact (Whole.new w 212 _).fr hF2 (fun e => e)
    have hB : Whole w2 w1.heap.size 212 (entV y).toArray := by subst hw2; exact Whole.new w1 212 _
    have HG := Lib.hid (show ∀ n os, grow (w2.drewN n) os = grow (w.drewN n) (#[.cells (entV x).toArray 212, .cells (entV y).toArray 212] ++ os) from fun n os => by
      rw [← hw2, ← hw1, alloc_eq_grow, alloc_eq_grow, grow_grow]
      show grow (grow (w.drewN n) (#[_] ++ #[_])) os = _
      rw [grow_grow]; rfl)
    have hl : ∀ (e : EntTr) (g : Nat), Whole w2 g 212 (entV e).toArray → ∀ n os, Sem.run Tryz.prog (loadCellsFrom ⟨g, 0, none⟩ 0 kn #[]) (grow (w2.drewN n) os) = .ok (entV e).toArray (grow (w2.drewN n) os) := fun e g hg n os => by
      have h2 := run_loadCells_list (P := Tryz.prog) (grow (w2.drewN n) os) ⟨g, 0, none⟩ (entV e) (fun j v hv => by
        rw [add_off, Nat.zero_add]
        exact cell_grown (a := ⟨g, j, none⟩) hg.lt (by rw [hg.cell, List.getElem?_toArray]; exact hv) n os)
      rw [entV_len] at h2
      rw [hk]
      simpa [loadCells] using h2
    have l1 := hl x _ hA
    have l2 := hl y _ hB
    have HC := Lib.hid (fun w => GsCompare_any (EntTr.name x) (EntTr.name y) w)
    have HR : Hid (nameCmp x y = Lib.compareBytes (EntTr.name x) (EntTr.name y)) := Lib.hid rfl
    obtain ⟨cx, hcx⟩ : ∃ c, (entV x).toArray = c := ⟨_, rfl⟩
    obtain ⟨cy, hcy⟩ : ∃ c, (entV y).toArray = c := ⟨_, rfl⟩
    obtain ⟨sx, hsx⟩ : ∃ s, strB (EntTr.name x) = s := ⟨_, rfl⟩
    obtain ⟨sy, hsy⟩ : ∃ s, strB (EntTr.name y) = s := ⟨_, rfl⟩
    obtain ⟨r, hr⟩ : ∃ r, Lib.compareBytes (EntTr.name x) (EntTr.name y) = r := ⟨_, rfl⟩
    rw [HR.out, hr])
  have d1 : w2.cell? ⟨w.heap.size, 0, none⟩ = some (.string (strB x.name)) := by rw [hA.cell]; rfl
  have d2 : w2.cell? ⟨w1.heap.size, 0, none⟩ = some (.string (strB y.name)) := by rw [hB.cell]; rfl
  rw [hcx] at hw1 HG ⊢
  rw [hcy] at hw2 HG ⊢
  rw [hsx] at HC d1
  rw [hsy] at HC d2
  rw [hr] at HC
  clear hA hB hF2 hl hcx hcy hsx hsy hr hk HR l1 l2
  go_enter Tryz.func201, Tryz.ntmps201
  go_wp2_with (go_at_call 181; refine (HC.out _).mono ?_; rintro e w' ⟨rfl, rfl⟩)
  go_ret
  exact ⟨rfl, _, _, by have := HG.out 0 #[]; rw [grow_empty] at this; exact this⟩
/-! Decorated by where they stood. -/
abbrev EntN := EntTr × Nat
def encN (x : EntN) : List Value := entV x.1
def cfN (cf : EntTr → EntTr → Int) (x y : EntN) : Int := cf x.1 y.1
theorem cmpLays_names (blk off size : Nat) (w : World) : CmpLays Tryz.prog 201 #[] encN 34 (cfN nameCmp) blk off size w :=
  fun m os dk _ x y => by
    have h := TcompareNames_grow x.1 y.1 (sortWorldK encN 34 w blk off m dk os)
    simpa [encN, cfN] using h
theorem swo_names : SWO (ltOf (cfN nameCmp)) := by
  have e : ltOf (cfN nameCmp) = fun a b : EntN => ltB a.1.name b.1.name := by
    funext a b
    exact ltOf_name a.1 b.1
  rw [e]
  exact swoB (fun a : EntN => a.1.name)
theorem enters_keys : ∀ args w, (callFunc 165 args).run Tryz.prog w = .ok (.enter 165 args) w := enters_of Tryz.func165 (by kernel_rfl) rfl
theorem enters_names : ∀ args w, (callFunc 201 args).run Tryz.prog w = .ok (.enter 201 args) w := enters_of Tryz.func201 (by kernel_rfl) rfl
end Go.Proofs.YtkaeoflgnnlbeaaGreatDoor
/- What is proved: plain facts on insertion, one by one, from the right: it is stable; entries of one's own in memory; what the library's stable sort makes of them. Conditions: none. -/
namespace Go.Proofs.YtkaeoflgnnlbeaaGreatDoor
open Go.RowKit Go.Sort Go.Shelf
set_option linter.unusedVariables false
section
variable {α : Type} [Inhabited α]
/-- Where x is put in: behind the last one that it isn't ahead of. -/
def insPos (lt : α → α → Bool) (x : α) (out : List α) : Nat → Nat
  | 0 => 0
  | k + 1 => if lt x out[k]! then insPos lt x out k else k + 1
def insB (lt : α → α → Bool) (out : List α) (x : α) : List α := out.take (insPos lt x out out.length) ++ x :: out.drop (insPos lt x out out.length)
def srt (lt : α → α → Bool) (l : List α) : List α := l.foldl (insB lt) []
theorem insPos_spec (lt : α → α → Bool) (x : α) (out : List α) : ∀ n, insPos lt x out n ≤ n ∧ (∀ k, insPos lt x out n ≤ k → k < n → lt x out[k]! = true) ∧ (0 < insPos lt x out n → lt x out[insPos lt x out n - 1]! = false)
  | 0 => ⟨Nat.le_refl _, fun k h1 h2 => by omega, fun h => absurd h (Nat.lt_irrefl _)⟩
  | n + 1 => by
    have ih := insPos_spec lt x out n
    rw [insPos]
    cases h : lt x out[n]! with
    | true =>
      rw [if_pos rfl]
      refine ⟨by omega, fun k h1 h2 => ?_, ih.2.2⟩
      by_cases hk : k = n
      · rw [hk]; exact h
      · exact ih.2.1 k h1 (by omega)
    | false =>
      rw [if_neg (by simp)]
      exact ⟨Nat.le_refl _, fun k h1 h2 => by omega, fun _ => h⟩
theorem insB_len (lt : α → α → Bool) (out : List α) (x : α) : (insB lt out x).length = out.length + 1 := by
  have := (insPos_spec lt x out out.length).1
  rw [insB, List.length_append, List.length_cons, List.length_take, List.length_drop]; omega
theorem srt_len (lt : α → α → Bool) (l : List α) : (srt lt l).length = l.length := by
  suffices h : ∀ (l out : List α), (l.foldl (insB lt) out).length = out.length + l.length by simpa [srt] using h l []
  intro l
  induction l with
  | nil => intro out; simp
  | cons x l ih => intro out; rw [List.foldl_cons, ih, insB_len, List.length_cons]; omega
theorem insB_perm (lt : α → α → Bool) (out : List α) (x : α) : (insB lt out x).Perm (x :: out) := by
  rw [insB]
  refine List.perm_middle.trans ?_
  rw [List.take_append_drop]
theorem srt_perm (lt : α → α → Bool) (l : List α) : (srt lt l).Perm l := by
  suffices h : ∀ (l out : List α), (l.foldl (insB lt) out).Perm (out ++ l) by simpa [srt] using h l []
  intro l
  induction l with
  | nil => intro out; simp
  | cons x l ih =>
    intro out
    rw [List.foldl_cons]
    refine (ih _).trans ?_
    refine ((insB_perm lt out x).append_right l).trans ?_
    exact List.perm_middle.symm
theorem get!_of (l : List α) (i : Nat) (h : i < l.length) : l[i]! = l[i] := getElem!_pos l i h
theorem insB_St {lt : α → α → Bool} {ix : α → Nat} (hS : SWO lt) (out : List α) (x : α) (hp : out.Pairwise (LL lt ix)) (hx : ∀ y ∈ out, ix y < ix x) : (insB lt out x).Pairwise (LL lt ix) := by
  obtain ⟨h1, h2, h3⟩ := insPos_spec lt x out out.length
  rw [insB]
  generalize insPos lt x out out.length = p at h1 h2 h3
  have hpp := List.pairwise_iff_getElem.1 hp
  have hlow : ∀ y ∈ out.take p, LL lt ix y x := fun y hy => by
    obtain ⟨i, hi, rfl⟩ := List.getElem_of_mem hy
    rw [List.length_take] at hi
    rw [List.getElem_take]
    have h4 := h3 (by omega)
    rw [get!_of out (p - 1) (by omega)] at h4
    have h5 : LL lt ix out[p - 1] x := .of_not h4 (hx _ (List.getElem_mem _))
    by_cases hip : i = p - 1
    · subst hip; exact h5
    · exact (hpp i (p - 1) (by omega) (by omega) (by omega)).trans hS h5
  have hhigh : ∀ z ∈ out.drop p, LL lt ix x z := fun z hz => by
    obtain ⟨i, hi, rfl⟩ := List.getElem_of_mem hz
    rw [List.length_drop] at hi
    rw [List.getElem_drop]
    have := h2 (p + i) (by omega) (by omega)
    rw [get!_of out _ (by omega)] at this
    exact .inl this
  rw [List.pairwise_append]
  refine ⟨hp.sublist (List.take_sublist _ _), List.pairwise_cons.2 ⟨hhigh, hp.sublist (List.drop_sublist _ _)⟩, fun a ha b hb => ?_⟩
  rcases List.mem_cons.1 hb with rfl | hb
  · exact hlow a ha
  · exact (hlow a ha).trans hS (hhigh b hb)
theorem srt_St {lt : α → α → Bool} {ix : α → Nat} (hS : SWO lt) (l : List α) (hl : l.Pairwise fun a b => ix a < ix b) : (srt lt l).Pairwise (LL lt ix) := by
  suffices h : ∀ (l out : List α), out.Pairwise (LL lt ix) → (l.Pairwise fun a b => ix a < ix b) → (∀ y ∈ out, ∀ z ∈ l, ix y < ix z) → (l.foldl (insB lt) out).Pairwise (LL lt ix) from h l [] .nil hl (fun y hy => by cases hy)
  intro l
  induction l with
  | nil => intro out h _ _; exact h
  | cons x l ih =>
    intro out h1 h2 h3
    rw [List.foldl_cons]
    have h4 := List.pairwise_cons.1 h2
    refine ih _ (insB_St hS out x h1 (fun y hy => h3 y hy x (by simp))) h4.2 (fun y hy z hz => ?_)
    rcases List.mem_cons.1 ((insB_perm lt out x).mem_iff.1 hy) with rfl | hy
    · exact h4.1 z hz
    · exact h3 y hy z (by simp [hz])
omit [Inhabited α] in
/-- There is one list in order. -/
theorem one_order {lt : α → α → Bool} {ix : α → Nat} (hS : SWO lt) {a b : List α} (ha : a.Pairwise (LL lt ix)) (hb : b.Pairwise (LL lt ix)) (hp : a.Perm b) : a = b :=
  List.Perm.eq_of_pairwise (fun x y _ _ h1 h2 => (LL.asymm hS h1 h2).elim) ha hb hp
end
/-- What is sorted decorated is sorted plain. -/
theorem map_get! (l : List EntN) (k : Nat) : (l.map (·.1))[k]! = (l[k]!).1 := by
  by_cases h : k < l.length
  · rw [get!_of _ k (by simpa using h), get!_of _ k h, List.getElem_map]
  · rw [getElem!_neg _ k (by simpa using h), getElem!_neg _ k h]; rfl
theorem insPos_map (lt : EntTr → EntTr → Bool) (x : EntN) (out : List EntN) : ∀ n, insPos (fun a b : EntN => lt a.1 b.1) x out n = insPos lt x.1 (out.map (·.1)) n
  | 0 => rfl
  | n + 1 => by rw [insPos, insPos, map_get!, insPos_map lt x out n]
theorem insB_map (lt : EntTr → EntTr → Bool) (out : List EntN) (x : EntN) : (insB (fun a b : EntN => lt a.1 b.1) out x).map (·.1) = insB lt (out.map (·.1)) x.1 := by
  rw [insB, insB, insPos_map, List.map_append, List.map_cons, List.map_take, List.map_drop, List.length_map]
theorem srt_map (lt : EntTr → EntTr → Bool) (l : List EntN) : (srt (fun a b : EntN => lt a.1 b.1) l).map (·.1) = srt lt (l.map (·.1)) := by
  suffices h : ∀ (l out : List EntN), (l.foldl (insB (fun a b : EntN => lt a.1 b.1)) out).map (·.1) = (l.map (·.1)).foldl (insB lt) (out.map (·.1)) from h l []
  intro l
  induction l with
  | nil => intro out; rfl
  | cons x l ih => intro out; rw [List.foldl_cons, ih, insB_map, List.map_cons, List.foldl_cons]
/-! Entries of one's own. -/
/-- A list of entries of the call's own; all that lay in w0 lies as it lay. -/
def OwnE (w0 w : World) (v : Value) (es : List EntTr) : Prop := w.ownsRow w0.heap.size 212 34 v es.length (flatE es) ∧ Fr (fun _ => False) w0 w
theorem OwnE.fr {w0 w w' : World} {v : Value} {es : List EntTr} (h : OwnE w0 w v es) (f : Fr (fun _ => False) w w') : OwnE w0 w' v es := ⟨own_fr h.1 f (fun _ _ e => e), h.2.trans f (fun _ _ e => e)⟩
theorem Lies.of_own34 {w : World} {base : Nat} {A : Option Addr} {n c : Nat} {xs : List Value} (h : w.ownsRow base 212 34 (.slice A n c) n xs) : Lies w A xs := by
  rcases own_shape h with ⟨_, _, h0⟩ | ⟨g, cap, hv, _⟩
  · exact .inl h0
  · injection hv with h1 h2 h3
    subst h1; subst h3
    refine .inr ⟨g, 0, rfl, fun j u hu => ?_⟩
    have hj : j < n * 34 := by
      have := (List.getElem?_eq_some_iff.1 hu).1
      rwa [h.1] at this
    rw [Nat.zero_add, World.ownsRow.cellAt h j hj]
    exact hu
theorem OwnE.slice {w0 w : World} {v : Value} {es : List EntTr} (h : OwnE w0 w v es) : ∃ A c, v = .slice A es.length c ∧ es.length ≤ c ∧ c ≤ maxLen ∧ Lies w A (flatE es) ∧ Fr (fun _ => False) w0 w := by
  obtain ⟨A, c, hv, h1, h2⟩ := own_slice h.1
  refine ⟨A, c, hv, h1, h2, ?_, h.2⟩
  have := h.1
  rw [hv] at this
  exact Lies.of_own34 this
theorem full_extract {β : Type} (d : Array β) (n : Nat) (h : d.size = n) : (d.extract 0 n).toList = d.toList := by
  subst h
  rw [Array.toList_extract, List.extract, List.drop_zero, Nat.sub_zero]
  exact List.take_of_length_le (by rw [Array.length_toList]; exact Nat.le_refl _)
def entsOf (d : Array EntN) : List EntTr := d.toList.map (·.1)
theorem entsOf_len (d : Array EntN) : (entsOf d).length = d.size := by simp [entsOf]
theorem encN_len (x : EntN) : (encN x).length = 34 := entV_len x.1
theorem flat_ents (d : Array EntN) : (flatK encN 34 d).toList = flatE (entsOf d) := by
  apply List.ext_getElem?
  intro t
  rcases Nat.lt_or_ge t (d.size * 34) with h | h
  · have hd : t / 34 < d.size := by omega
    have hm : t % 34 < 34 := Nat.mod_lt _ (by decide)
    have e1 : (flatK encN 34 d).toList[t]? = some ((encN d[t / 34]!)[t % 34]!) := by
      rw [Array.getElem?_toList]
      have := get_flatK encN 34 d t h
      rw [getElem!_pos _ t (by rw [size_flatK]; exact h)] at this
      rw [Array.getElem?_eq_getElem (by rw [size_flatK]; exact h), this]
    have e2 := flatE_get (entsOf d) (t / 34) (t % 34) (d[t / 34]!).1 (by
      rw [entsOf, List.getElem?_map, Array.getElem?_toList, Array.getElem?_eq_getElem hd, getElem!_pos d _ hd]
      rfl) hm
    rw [show t / 34 * 34 + t % 34 = t by omega] at e2
    rw [e1, e2, getElem!_pos _ _ (by rw [encN_len]; exact hm), List.getElem?_eq_getElem (by rw [entV_len]; exact hm)]
    rfl
  · rw [List.getElem?_eq_none (by rw [Array.length_toList, size_flatK]; exact h), List.getElem?_eq_none (by rw [flatE_len, entsOf_len]; exact h)]
def mkEnts (es : List EntTr) : Array EntN := es.zipIdx.toArray
theorem mkEnts_size (es : List EntTr) : (mkEnts es).size = es.length := by simp [mkEnts]
theorem entsOf_mk (es : List EntTr) : entsOf (mkEnts es) = es := by simp [entsOf, mkEnts, List.zipIdx_map_fst]
theorem mkEnts_ix (es : List EntTr) (p : Nat) (h : p < es.length) : (mkEnts es)[p]!.2 = p := by
  rw [getElem!_pos _ p (by rw [mkEnts_size]; exact h)]
  simp [mkEnts, List.getElem_zipIdx]
/-- What a decorated list is behind the sort: the plain one sorted. -/
theorem sorted_is (cf : EntTr → EntTr → Int) (hO : SWO (ltOf (cfN cf))) (es : List EntTr) (d' : Array EntN) (hp : PermIn 0 (mkEnts es).size (mkEnts es) d') (hs : St (ltOf (cfN cf)) (·.2) 0 (mkEnts es).size d') : entsOf d' = srt (ltOf cf) es := by
  have hsz : d'.size = (mkEnts es).size := hp.1
  have h3 := hp.2.2
  rw [full_extract d' _ hsz, full_extract _ _ rfl] at h3
  have e : d'.toList = srt (ltOf (cfN cf)) (mkEnts es).toList := by
    refine one_order hO (ix := (·.2)) ?_ (srt_St hO _ ?_) (h3.trans (srt_perm _ _).symm)
    · rw [List.pairwise_iff_getElem]
      intro i j hi hj hij
      rw [Array.length_toList] at hi hj
      have := hs i j (Nat.zero_le _) hij (by rw [← hsz]; exact hj)
      rw [getElem!_pos d' i hi, getElem!_pos d' j hj] at this
      simpa using this
    · rw [List.pairwise_iff_getElem]
      intro i j hi hj hij
      simp [mkEnts, List.getElem_zipIdx] at hi hj ⊢
      exact hij
  have e2 : ltOf (cfN cf) = fun a b : EntN => ltOf cf a.1 b.1 := rfl
  rw [entsOf, e, e2, srt_map]
  congr 1
  exact entsOf_mk es
set_option maxHeartbeats 1600000 in
/-- The library's stable sort of a list of the call's own. -/
theorem SortStable_own (w0 w : World) (g c : Nat) (es : List EntTr) (f : Nat) (cf : EntTr → EntTr → Int) (hn : es.length ≤ 999999) (ho : OwnE w0 w (.slice (some ⟨g, 0, none⟩) es.length c) es)
    (eg : ∀ args w, (callFunc f args).run Tryz.prog w = .ok (.enter f args) w) (hO : SWO (ltOf (cfN cf))) (hcmp : ∀ size w, CmpLays Tryz.prog f #[] encN 34 (cfN cf) g 0 size w) :
    Calls Tryz.prog 216 #[.slice (some ⟨g, 0, none⟩) es.length c, .func (.func f) #[] #[]] w fun e w' => e = .returned (.tuple #[]) ∧ OwnE w0 w' (.slice (some ⟨g, 0, none⟩) es.length c) (srt (ltOf cf) es) := by
  rcases ho.1.2 with ⟨hv, _⟩ | ⟨g', cap, cur, hv, hbase, hg, hnc, hcm, hcs, htk⟩
  · cases hv
  · cases hv
    have hd := mkEnts_size es
    have hW : Whole w g 212 cur := hg
    have hcell : ∀ j, j < es.length * 34 → cur[j]? = (flatE es)[j]? := fun j hj => by
      rw [← htk, List.getElem?_take, if_pos hj, Array.getElem?_toList]
    have hH : HoldsK encN 34 w g 0 (mkEnts es) := fun j hj => by
      rw [size_flatK, hd] at hj
      refine ⟨?_, by rw [Nat.zero_add]; exact hW.frozen j⟩
      rw [Nat.zero_add, hW.cell, hcell j hj]
      have := flat_ents (mkEnts es)
      rw [entsOf_mk] at this
      rw [← this, Array.getElem?_toList, Array.getElem?_eq_getElem (by rw [size_flatK, hd]; exact hj), getElem!_pos _ j (by rw [size_flatK, hd]; exact hj)]
      rfl
    have hcon := GSortStable_any encN (cfN cf) (·.2) f #[] g 0 c (mkEnts es) w eg hO (hcmp _ _) ⟨encN_len, fun x => entV_one x.1, hH, hW.lt⟩ (by rw [hd]; omega) (fun p q h1 h2 => by rw [hd] at h2; rw [mkEnts_ix es p (by omega), mkEnts_ix es q h2]; exact h1)
    rw [hd] at hcon
    refine Calls.mono hcon (fun e w' ⟨he, d', ⟨n, os, hw'⟩, hp, hs⟩ => ⟨he, ?_⟩)
    have hd2 : d'.size = es.length := hp.1.trans hd
    have hes : entsOf d' = srt (ltOf cf) es := sorted_is cf hO es d' (by rw [hd]; exact hp) (by rw [hd]; exact hs)
    have hlen := srt_len (ltOf cf) es
    rw [← hes]
    rw [← hes] at hlen
    have hsz : (flatK encN 34 d').size = es.length * 34 := by rw [size_flatK, hd2]
    have hblk : w'.heap[g]? = some (.cells (putCells id 0 (flatK encN 34 d') cur) 212 (0, 0)) := by
      subst hw'
      show ((putRow id (Sort.ahead w n) g 0 (flatK encN 34 d')).heap ++ os)[g]? = _
      rw [Array.getElem?_append_left (by rw [size_putRow]; exact hW.lt)]
      simp only [putRow, mapBlock, Array.getElem?_modify, if_true]
      show (w.heap[g]?).map _ = _
      rw [hg]
      rfl
    refine ⟨⟨by rw [flatE_len], .inr ⟨g, c, _, by rw [hlen], hbase, hblk, by rw [hlen]; exact hnc, hcm, by rw [putCells, Array.size_mapIdx, hcs], ?_⟩⟩, ?_⟩
    · rw [hlen, ← flat_ents]
      apply List.ext_getElem?
      intro t
      rw [List.getElem?_take, Array.getElem?_toList, Array.getElem?_toList]
      split
      · rename_i ht
        rw [putCells, Array.getElem?_mapIdx, Array.getElem?_eq_getElem (by rw [hcs]; have := Nat.mul_le_mul_right 34 hnc; omega), Option.map_some, if_pos ⟨Nat.zero_le _, by rw [hsz]; omega⟩, Nat.sub_zero, Array.getElem?_eq_getElem (by rw [hsz]; exact ht), getElem!_pos _ t (by rw [hsz]; exact ht)]
        rfl
      · rename_i ht
        rw [Array.getElem?_eq_none (by rw [hsz]; omega)]
    · refine ho.2.trans (T := fun k => k = g) ?_ (fun k hk e => by omega)
      subst hw'
      refine ⟨rfl, rfl, rfl, by show w.heap.size ≤ ((putRow id (Sort.ahead w n) g 0 (flatK encN 34 d')).heap ++ os).size; rw [Array.size_append, size_putRow]; exact Nat.le_add_right _ _, fun k hk hne => ?_⟩
      show ((putRow id (Sort.ahead w n) g 0 (flatK encN 34 d')).heap ++ os)[k]? = _
      rw [Array.getElem?_append_left (by rw [size_putRow]; exact hk)]
      simp only [putRow, mapBlock, Array.getElem?_modify, if_neg (fun e => hne (Eq.symm e))]
      rfl
end Go.Proofs.YtkaeoflgnnlbeaaGreatDoor
/- What is proved: entries as a source of an append; a list put in order by the program, by keys or by names; whether a number is a mode. Conditions: the list's cells are there. -/
namespace Go.Proofs.YtkaeoflgnnlbeaaGreatDoor
open Go.RowKit Go.Sort Go.Shelf
set_option linter.unusedVariables false
theorem Lies.someE {w : World} {A : Option Addr} {es : List EntTr} (h : Lies w A (flatE es)) (hn : 0 < es.length) : ∃ b o, A = some ⟨b, o, none⟩ := by
  rcases h with h | ⟨b, o, rfl, _⟩
  · have := flatE_len es
    rw [h] at this
    simp at this
    omega
  · exact ⟨b, o, rfl⟩
theorem Lies.src34 {w : World} {A : Option Addr} {es : List EntTr} (h : Lies w A (flatE es)) {n : Nat} (hn : es.length = n) (c : Nat) : Src Tryz.prog 34 184 (.slice A n c) n (flatE es) w := by
  subst hn
  rcases A with _ | ad
  · have h0 : es = [] := by
      rcases h with h | ⟨b, o, h, _⟩
      · have := flatE_len es
        rw [h] at this
        simp at this
        exact List.eq_nil_of_length_eq_zero (by omega)
      · cases h
    subst h0
    exact Src.ofNil w Tryz.underlying184 c
  · refine Src.ofSlice w Tryz.underlying184 ad es.length c (flatE es) (flatE_len es) (fun j u hu => ?_) (flatE_one es)
    rcases h with h | ⟨b, o, h, hc⟩
    · rw [h] at hu; simp at hu
    · injection h with h
      subst h
      rw [add_off]
      exact hc j u hu
theorem zeroE_cells : (Value.agg (entV default).toArray).cells.size = 34 := by kernel_rfl
theorem OwnE.nil {w0 w : World} (f : Fr (fun _ => False) w0 w) : OwnE w0 w (.slice none 0 0) [] := ⟨World.ownsRow_nil w w0.heap.size 212 34, f⟩
theorem OwnE.grow {w0 w w' : World} {v v' : Value} {es ms ks : List EntTr} (h : OwnE w0 w v es) (hk : ks = es ++ ms) {m n : Nat} (hn : n = es.length) (hm : m = ms.length) (o : w'.ownsRow w0.heap.size 212 34 v' (n + m) (flatE es ++ flatE ms)) (g : w.grownBy w' v.ownBlock) : OwnE w0 w' v' ks := by
  subst hk
  refine ⟨?_, fr_append h.1 h.2 g⟩
  rw [List.length_append, flatE_append, ← hn, ← hm]
  exact o
/-! Nothing to sort. -/
set_option maxHeartbeats 1000000 in
theorem Ginsertion_none (A : Option Addr) (c g : Nat) (w : World) : Calls Tryz.prog 227 #[.slice A 0 c, .int .i64 0, .int .i64 0, .func (.func g) #[] #[]] w fun e w' => e = .returned (.tuple #[]) ∧ w = w' := by
  go_enter Tryz.func227, Tryz.ntmps227
  go_wp2
  refine wp_loop_rounds 1 ?_
  rw [rounds_succ]
  go_wp2
  go_end0
  exact ⟨rfl, rfl⟩
set_option maxHeartbeats 1000000 in
theorem Gstable_none (A : Option Addr) (c g : Nat) (w : World) : Calls Tryz.prog 224 #[.slice A 0 c, .int .i64 0, .func (.func g) #[] #[]] w fun e w' => e = .returned (.tuple #[]) ∧ w = w' := by
  have hc := Lib.hid (Ginsertion_none A c g w)
  go_enter Tryz.func224, Tryz.ntmps224
  go_wp2
  refine wp_loop_rounds 1 ?_
  rw [rounds_succ]
  go_wp2_with (go_at_call 227; refine hc.out.mono ?_; rintro e w' ⟨rfl, rfl⟩)
  refine wp_loop_rounds 1 ?_
  rw [rounds_succ]
  go_wp2
  go_end0
  exact ⟨rfl, rfl⟩
set_option maxHeartbeats 1000000 in
theorem GSortStable_none (A : Option Addr) (c g : Nat) (w : World) : Calls Tryz.prog 216 #[.slice A 0 c, .func (.func g) #[] #[]] w fun e w' => e = .returned (.tuple #[]) ∧ w = w' := by
  have hc := Lib.hid (Gstable_none A c g w)
  go_enter Tryz.func216, Tryz.ntmps216
  go_wp2_with (go_at_call 224; refine hc.out.mono ?_; rintro e w' ⟨rfl, rfl⟩)
  go_end0
  exact ⟨rfl, rfl⟩
set_option maxHeartbeats 3200000 in
/-- sortedBy, at a function that compares entries. -/
theorem TsortedBy_any (f : Nat) (cf : EntTr → EntTr → Int) (A : Option Addr) (cap : Nat) (es : List EntTr) (hn : es.length ≤ 100000) (w : World) (h : Lies w A (flatE es))
    (eg : ∀ args w, (callFunc f args).run Tryz.prog w = .ok (.enter f args) w) (hO : SWO (ltOf (cfN cf))) (hcmp : ∀ g size w, CmpLays Tryz.prog f #[] encN 34 (cfN cf) g 0 size w) :
    Calls Tryz.prog 200 #[.slice A es.length cap, .func (.func f) #[] #[]] w fun e w' => ∃ v, e = .returned v ∧ OwnE w w' v (srt (ltOf cf) es) := by
  obtain ⟨i0, hi, hz0, hz1, hz2⟩ := info_parts info_ent
  have hz3 := zeroE_cells
  obtain ⟨Z, hZ⟩ : ∃ Z, (entV default).toArray = Z := ⟨_, rfl⟩
  rw [hZ] at hz0 hz3
  have HL := Lib.hid h
  obtain ⟨L, hL⟩ : ∃ L, es.length = L := ⟨_, rfl⟩
  have HLn := Lib.hid hL
  have HS := Lib.hid (fun w1 g c ho => SortStable_own w w1 g c es f cf (by omega) ho eg hO (hcmp g))
  rw [hL] at hn ⊢
  clear h hL hZ eg hO hcmp
  go_enter Tryz.func200, Tryz.ntmps200
  go_wp2_with (at_builtin; refine wpList_append_row _ rfl (.const (.slice none 0 0)) (.tmp 6) 184 184 rfl w.heap.size 212 i0 (.agg Z) 34 56 Tryz.underlying184 hi hz0 hz1 hz2 hz3 (.slice none 0 0) 0 [] rfl (World.ownsRow_nil w w.heap.size 212 34) (.slice A L cap) L (flatE es) rfl (Lies.src34 HL.out HLn.out cap) (by unfold maxLen; omega) (by omega) (Nat.le_refl _) ?_
               intro v1 w1 o1 g1 at1)
  have n1 : OwnE w w1 v1 es := OwnE.grow (OwnE.nil (Fr.refl (fun _ => False) w)) (ks := es) (by simp) rfl HLn.out.symm o1 g1
  clear o1 g1 at1
  have n1o := n1.1
  rw [HLn.out] at n1o
  rcases own_shape n1o with ⟨hv, hL0, _⟩ | ⟨g, c1, hv, hnc, hcm, _⟩
  · subst hv
    subst hL0
    have HR := Lib.hid (show OwnE w w1 (.slice none 0 0) (srt (ltOf cf) es) from by rw [List.eq_nil_of_length_eq_zero HLn.out] at n1 ⊢; exact n1)
    clear n1 n1o HS
    go_wp2_with (go_at_call 216; refine (GSortStable_none none 0 f _).mono ?_; rintro e w3 ⟨rfl, rfl⟩)
    go_ret
    exact ⟨_, rfl, HR.out⟩
  · subst hv
    have hso := HS.out w1 g c1 (by rw [HLn.out]; exact n1)
    rw [HLn.out] at hso
    have HSO := Lib.hid hso
    clear n1 n1o hso HS
    go_wp2_with (go_at_call 216; refine HSO.out.mono ?_; rintro e w3 ⟨rfl, hown⟩)
    go_ret
    exact ⟨_, rfl, hown⟩
set_option maxHeartbeats 1000000 in
theorem TbyName_any (A : Option Addr) (cap : Nat) (es : List EntTr) (hn : es.length ≤ 100000) (w : World) (h : Lies w A (flatE es)) :
    Calls Tryz.prog 180 #[.slice A es.length cap] w fun e w' => ∃ v, e = .returned v ∧ OwnE w w' v (srt (ltOf nameCmp) es) := by
  have hc := Lib.hid (TsortedBy_any 201 nameCmp A cap es hn w h enters_names swo_names (fun g size w => cmpLays_names g 0 size w))
  obtain ⟨L, hL⟩ : ∃ L, es.length = L := ⟨_, rfl⟩
  rw [hL] at hc ⊢
  clear h hL
  go_enter Tryz.func180, Tryz.ntmps180
  go_wp2_with (go_at_call 200; refine hc.out.mono ?_; rintro e w' ⟨v, rfl, ho⟩)
  go_ret
  exact ⟨_, rfl, ho⟩
/-- Whether a number is a mode. -/
def modeB (m : Int) : Bool := decide (1 ≤ m) && decide (m ≤ 3)
set_option maxHeartbeats 1000000 in
theorem TisMode_any (m : Int) (w : World) : Calls Tryz.prog 160 #[.int .i64 m] w fun e w' => e = .returned (.bool (modeB m)) ∧ w = w' := by
  have HM : Hid (modeB m = (decide (m = 1) || (decide (m = 2) || decide (m = 3)))) := Lib.hid (by
    rw [modeB, Bool.eq_iff_iff]; simp; omega)
  obtain ⟨r, hr⟩ : ∃ r, modeB m = r := ⟨_, rfl⟩
  rw [hr] at HM ⊢
  clear hr
  go_enter Tryz.func160, Tryz.ntmps160
  by_cases h1 : m = 1
  · go_wp2
    go_ret
    exact ⟨by rw [HM.out, h1]; rfl, rfl⟩
  · by_cases h2 : m = 2
    · go_wp2
      go_ret
      exact ⟨by rw [HM.out, h2]; rfl, rfl⟩
    · by_cases h3 : m = 3
      · go_wp2
        go_ret
        exact ⟨by rw [HM.out, h3]; rfl, rfl⟩
      · go_wp2
        go_ret
        exact ⟨by rw [HM.out, decide_eq_false h1, decide_eq_false h2, decide_eq_false h3]; simp [h1, h2, h3], rfl⟩
end Go.Proofs.YtkaeoflgnnlbeaaGreatDoor
/- What is proved: whether two of a list's entries have one name, whether entries stand in order; by the program, and plain. Conditions: the list's cells are there. -/
namespace Go.Proofs.YtkaeoflgnnlbeaaGreatDoor
open Go.RowKit Go.Sort Go.Shelf
set_option linter.unusedVariables false
/-! Plain. -/
/-- Two of one name. -/
def twB (es : List EntTr) : Bool := !decide ((es.map EntTr.name).Nodup)
theorem twB_perm {a b : List EntTr} (h : a.Perm b) : twB a = twB b := by
  rw [twB, twB, Bool.eq_iff_iff]
  simp [(h.map EntTr.name).nodup_iff]
theorem twB_at {es : List EntTr} {j k : Nat} (h1 : j < k) (h2 : k < es.length) (h : es[j]!.name = es[k]!.name) : twB es = true := by
  rw [twB, Bool.not_eq_true', decide_eq_false_iff_not]
  intro hn
  have := List.pairwise_iff_getElem.1 hn j k (by simp; omega) (by simpa using h2) h1
  rw [getElem!_pos es j (by omega), getElem!_pos es k h2] at h
  simp [h] at this
theorem twB_none {es : List EntTr} (h : ∀ j k, j < k → k < es.length → es[j]!.name ≠ es[k]!.name) : twB es = false := by
  rw [twB, Bool.not_eq_false', decide_eq_true_eq]
  refine List.pairwise_iff_getElem.2 (fun i j hi hj hij e => ?_)
  have hi2 : i < es.length := by simpa using hi
  have hj2 : j < es.length := by simpa using hj
  refine h i j hij hj2 ?_
  rw [getElem!_pos es i hi2, getElem!_pos es j hj2]
  simpa using e
theorem srt_sorted (cf : EntTr → EntTr → Int) (hO : SWO (ltOf (cfN cf))) (es : List EntTr) : ∀ i j, i < j → j < es.length → ltOf cf (srt (ltOf cf) es)[j]! (srt (ltOf cf) es)[i]! = false := by
  have h := srt_St hO (ix := (·.2)) es.zipIdx (by
    rw [List.pairwise_iff_getElem]
    intro i j hi hj hij
    simp [List.getElem_zipIdx]
    exact hij)
  have e2 : ltOf (cfN cf) = fun a b : EntN => ltOf cf a.1 b.1 := rfl
  rw [e2] at h
  have hm := srt_map (ltOf cf) es.zipIdx
  rw [List.zipIdx_map_fst] at hm
  intro i j hij hj
  rw [← hm, map_get!, map_get!]
  have hl : (srt (fun a b : EntN => ltOf cf a.1 b.1) es.zipIdx).length = es.length := by rw [srt_len, List.length_zipIdx]
  have hp := List.pairwise_iff_getElem.1 h i j (by omega) (by omega) hij
  rw [getElem!_pos _ i (by omega), getElem!_pos _ j (by omega)]
  rcases hp with hp | hp
  · cases hq : ltOf cf (srt (fun a b : EntN => ltOf cf a.1 b.1) es.zipIdx)[j].1 (srt (fun a b : EntN => ltOf cf a.1 b.1) es.zipIdx)[i].1 with
    | false => rfl
    | true =>
      have := hO.trans _ _ _ hp hq
      rw [hO.irrefl] at this
      cases this
  · exact hp.1
/-- By names in order: no two neighbours of one name, no two at all. -/
theorem twB_next (es : List EntTr) (h : ∀ k, k + 1 < es.length → (srt (ltOf nameCmp) es)[k]!.name ≠ (srt (ltOf nameCmp) es)[k + 1]!.name) : twB es = false := by
  rw [← twB_perm (srt_perm (ltOf nameCmp) es)]
  have hs := srt_sorted nameCmp swo_names es
  have hl := srt_len (ltOf nameCmp) es
  generalize srt (ltOf nameCmp) es = rs at h hs hl
  have h1 : ∀ k, k + 1 < es.length → ltB rs[k]!.name rs[k + 1]!.name = true := fun k hk => by
    have := hs k (k + 1) (by omega) hk
    rw [ltOf_name] at this
    cases hq : ltB rs[k]!.name rs[k + 1]!.name with
    | true => rfl
    | false => exact absurd (ltB_total _ _ hq this) (h k hk)
  have h2 : ∀ n j, j + (n + 1) < es.length → ltB rs[j]!.name rs[j + (n + 1)]!.name = true := by
    intro n
    induction n with
    | zero => intro j hj; exact h1 j hj
    | succ n ih => intro j hj; exact ltB_trans _ _ _ (ih j (by omega)) (h1 (j + (n + 1)) (by omega))
  refine twB_none (fun j k hjk hk e => ?_)
  have := h2 (k - j - 1) j (by omega)
  rw [show j + (k - j - 1 + 1) = k by omega, e, ltB_irrefl] at this
  cases this
/-- None stands ahead of the one before it. -/
def isrB (es : List EntTr) : Bool := (List.range (es.length - 1)).all fun k => !ltB (keyE es[k + 1]!) (keyE es[k]!)
theorem isrB_iff (es : List EntTr) : isrB es = true ↔ ∀ k, k + 1 < es.length → ltB (keyE es[k + 1]!) (keyE es[k]!) = false := by
  rw [isrB, List.all_eq_true]
  exact ⟨fun h k hk => by simpa using h k (by rw [List.mem_range]; omega), fun h k hk => by simpa using h k (by rw [List.mem_range] at hk; omega)⟩
/-- The first that is wrong with an entry, going from the first on. -/
def firstBad : List EntTr → Int
  | [] => 0
  | e :: r => if modeB e.mode = false then 16 else if nameB e.name = false then 15 else firstBad r
/-- Whether entries may be a tree. -/
def chk (es : List EntTr) : Int := if 64 < es.length then 3 else if firstBad es = 0 then (if twB es = true then 17 else if isrB es = true then 0 else 18) else firstBad es
set_option maxHeartbeats 3200000 in
theorem Ttwice_any (A : Option Addr) (cap : Nat) (es : List EntTr) (hn : es.length ≤ 100000) (w : World) (h : Lies w A (flatE es)) :
    Calls Tryz.prog 163 #[.slice A es.length cap] w fun e w' => e = .returned (.bool (twB es)) ∧ Below w.heap.size w w' := by
  have hc := Lib.hid (TbyName_any A cap es hn w h)
  have HE := Lib.hid (twB_next es)
  have HA := Lib.hid (fun k (hk : k + 1 < es.length) (e : (srt (ltOf nameCmp) es)[k]!.name = (srt (ltOf nameCmp) es)[k + 1]!.name) => (twB_perm (srt_perm (ltOf nameCmp) es)).symm.trans (twB_at (j := k) (k := k + 1) (by omega) (by rw [srt_len]; exact hk) e))
  have HLS := Lib.hid (srt_len (ltOf nameCmp) es)
  obtain ⟨rs, hrs⟩ : ∃ rs, srt (ltOf nameCmp) es = rs := ⟨_, rfl⟩
  obtain ⟨r, hr⟩ : ∃ r, twB es = r := ⟨_, rfl⟩
  obtain ⟨L, hL⟩ : ∃ L, es.length = L := ⟨_, rfl⟩
  rw [hrs] at hc HE HA HLS
  rw [hr] at HE HA ⊢
  rw [hL] at hc HE HA HLS hn ⊢
  clear h hrs hr hL
  go_enter Tryz.func163, Tryz.ntmps163
  go_wp2_with (go_at_call 180; refine hc.out.mono ?_; rintro e w1 ⟨v, rfl, ho⟩)
  obtain ⟨B, c1, hv, hlc, hcm, hli, hfr⟩ := ho.slice
  rw [HLS.out] at hv
  subst hv
  have HLI := Lib.hid hli
  have HF := Lib.hid hfr
  clear ho hlc hcm hli hfr
  go_wp2
  go_loopg [4] L (fun kx s4 wr => ∃ k : Nat, s4 = .int .i64 ((k : Int) + 1) ∧ k ≤ L ∧ L - k ≤ kx ∧ Fr (fun _ => False) w1 wr ∧ Hid (∀ j, j < k → j + 1 < L → rs[j]!.name ≠ rs[j + 1]!.name))
  case atStart => exact ⟨0, rfl, by omega, by omega, Fr.refl _ _, Lib.hid (fun j hj => by omega)⟩
  case round =>
    obtain ⟨k, rfl, hk, hkx, hf, HN⟩ := hrel
    obtain ⟨wo, rfl⟩ : ∃ wo, wo = wr := ⟨wr, rfl⟩
    have HFr := Lib.hid hf
    clear hf
    have wk := wrap_nat k (by omega)
    have wk1 := wrap_nat1 k (by omega)
    have tn1 := toNat_nat1 k
    have nn1 := nonneg_nat1 k
    by_cases hlt : k + 1 < L
    · obtain ⟨b, o, hB⟩ := HLI.out.someE (by rw [HLS.out]; omega)
      subst hB
      have c1' : ∀ q : Later wo, q.w'.cell? ⟨b, o + k * 34, none⟩ = some (.string (strB rs[k]!.name)) := fun q => name_at HLI.out (some_of_mem (by rw [HLS.out]; omega)) (HFr.out.trans q.fr (fun _ _ e => e))
      have c2' : ∀ q : Later wo, q.w'.cell? ⟨b, o + (k + 1) * 34, none⟩ = some (.string (strB rs[k + 1]!.name)) := fun q => name_at HLI.out (some_of_mem (by rw [HLS.out]; omega)) (HFr.out.trans q.fr (fun _ _ e => e))
      have heq := str_eq rs[k]!.name rs[k + 1]!.name
      obtain ⟨S1, hS1⟩ : ∃ S, strB rs[k]!.name = S := ⟨_, rfl⟩
      obtain ⟨S2, hS2⟩ : ∃ S, strB rs[k + 1]!.name = S := ⟨_, rfl⟩
      rw [hS1] at c1' heq
      rw [hS2] at c2' heq
      clear hS1 hS2
      have hltz : (k : Int) + 1 < L := by omega
      have hkz : (k : Int) < L := by omega
      have hkn : (k : Int) + 1 - 1 = k := by omega
      cases hq : (rs[k]!.name == rs[k + 1]!.name) with
      | true =>
        rw [hq] at heq
        have HQ := Lib.hid hq
        clear hq
        go_wp2_with fail
        refine wp_region_later (w0 := wo) (Fr.refl _ _) (by kernel_rfl) (by kernel_rfl) ?_
        repeat (quiet_step (fail))
        refine wpQuiet_nil ?_
        intro _ hw'
        obtain ⟨q, hw''⟩ := hw'
        subst hw''
        go_wp2_with fail
        (try simp only [Exit.inBlock, Exit.then])
        go_ret
        exact ⟨by rw [HA.out k hlt (by simpa using HQ.out)]; rfl, ((HF.out.trans HFr.out (fun _ _ e => e)).trans q.fr (fun _ _ e => e)).below (fun _ _ e => e)⟩
      | false =>
        rw [hq] at heq
        have HQ := Lib.hid hq
        clear hq
        go_wp2_with fail
        refine wp_region_later (w0 := wo) (Fr.refl _ _) (by kernel_rfl) (by kernel_rfl) ?_
        repeat (quiet_step (fail))
        refine wpQuiet_nil ?_
        intro _ hw'
        obtain ⟨q, hw''⟩ := hw'
        subst hw''
        go_wp2_with fail
        go_roundg (L - (k + 1))
        case measure => omega
        case rel => exact ⟨k + 1, by go_num, by omega, Nat.le_refl _, HFr.out.trans q.fr (fun _ _ e => e), Lib.hid (fun j hj hj1 => by
          by_cases e : j = k
          · subst e; simpa using HQ.out
          · exact HN.out j (by omega) hj1)⟩
    · have hltz : ¬ ((k : Int) + 1 < L) := by omega
      go_wp2_with fail
      go_ret
      exact ⟨by rw [HE.out (fun j hj => HN.out j (by omega) hj)]; rfl, (HF.out.trans HFr.out (fun _ _ e => e)).below (fun _ _ e => e)⟩
end Go.Proofs.YtkaeoflgnnlbeaaGreatDoor
/- What is proved: whether entries stand in order, whether they may be a tree, by the program. Conditions: the list's cells are there. -/
namespace Go.Proofs.YtkaeoflgnnlbeaaGreatDoor
open Go.RowKit Go.Sort Go.Shelf
set_option linter.unusedVariables false
theorem TcompareKeys_any (x y : EntTr) (w : World) : Calls Tryz.prog 165 #[.agg (entV x).toArray, .agg (entV y).toArray] w fun e w' => e = .returned (.int .i64 (keyCmp x y)) ∧ Below w.heap.size w w' :=
  (TcompareKeys_grow x y w).mono fun _ _ ⟨h, q, os, hw⟩ => ⟨h, by rw [hw]; exact grow_below _ _ _⟩
set_option maxHeartbeats 3200000 in
theorem GIsSorted_any (A : Option Addr) (cap : Nat) (es : List EntTr) (hn : es.length ≤ 100000) (w : World) (h : Lies w A (flatE es)) :
    Calls Tryz.prog 164 #[.slice A es.length cap, .func (.func 165) #[] #[]] w fun e w' => e = .returned (.bool (isrB es)) ∧ Below w.heap.size w w' := by
  have HLI := Lib.hid h
  have HY : Hid ((∀ k, k + 1 < es.length → ltB (keyE es[k + 1]!) (keyE es[k]!) = false) → isrB es = true) := Lib.hid (isrB_iff es).2
  have HX : Hid (∀ k, k + 1 < es.length → ltB (keyE es[k + 1]!) (keyE es[k]!) = true → isrB es = false) := Lib.hid (fun k hk hl => by
    cases hq : isrB es with
    | false => rfl
    | true => have := (isrB_iff es).1 hq k hk; rw [hl] at this; cases this)
  have eg := enters_keys
  obtain ⟨r, hr⟩ : ∃ r, isrB es = r := ⟨_, rfl⟩
  obtain ⟨L, hL⟩ : ∃ L, es.length = L := ⟨_, rfl⟩
  have HLn := Lib.hid hL
  obtain ⟨T, hT⟩ : ∃ T : TypeId, T = 212 := ⟨_, rfl⟩
  obtain ⟨n34, h34⟩ : ∃ n : Nat, n = 34 := ⟨_, rfl⟩
  have ag34 : ∀ w, (isAgg T).run Tryz.prog w = .ok true w := by rw [hT]; exact fun _ => by kernel_rfl
  have sz34 : ∀ w, (sizeOf T).run Tryz.prog w = .ok n34 w := by rw [hT, h34]; exact fun _ => by kernel_rfl
  have HN := Lib.hid h34
  rw [hr] at HX HY ⊢
  rw [hL] at hn HX HY ⊢
  clear h hr hL h34
  go_enter Tryz.func164, Tryz.ntmps164
  rw [show Op.load 212 (.tmp 16) = Op.load T (.tmp 16) by rw [hT], show Op.load 212 (.tmp 21) = Op.load T (.tmp 21) by rw [hT]]
  clear hT
  go_wp2
  go_loopg [5] L (fun kx s5 wr => ∃ i : Nat, s5 = .int .i64 ((i : Int) - 1) ∧ i ≤ L ∧ i ≤ kx ∧ Fr (fun _ => False) w wr ∧ Hid (∀ j, i ≤ j + 1 → j + 1 < L → ltB (keyE es[j + 1]!) (keyE es[j]!) = false))
  case atStart => exact ⟨L, rfl, Nat.le_refl _, Nat.le_refl _, Fr.refl _ _, Lib.hid (fun j h1 h2 => by omega)⟩
  case round =>
    obtain ⟨i, rfl, hi, hkx, hf, HI⟩ := hrel
    obtain ⟨wo, rfl⟩ : ∃ wo, wo = wr := ⟨wr, rfl⟩
    have HFr := Lib.hid hf
    clear hf
    by_cases h2 : 2 ≤ i
    · obtain ⟨k, rfl⟩ : ∃ k, i = k + 2 := ⟨i - 2, by omega⟩
      rw [show (((k + 2 : Nat) : Int) - 1) = (k : Int) + 1 by omega]
      have wk := wrap_nat k (by omega)
      have wk1 := wrap_nat1 k (by omega)
      have tn1 := toNat_nat1 k
      have nn1 := nonneg_nat1 k
      obtain ⟨b, o, hB⟩ := HLI.out.someE (by rw [HLn.out]; omega)
      subst hB
      have hltz : (k : Int) + 1 < L := by omega
      have hkz : (k : Int) < L := by omega
      have hpz : (0 : Int) < (k : Int) + 1 := by omega
      cases hq : ltB (keyE es[k + 1]!) (keyE es[k]!) with
      | true =>
        (
          have l1 : ∀ q : Later wo, (loadCellsFrom ⟨b, o + (k + 1) * 34, none⟩ 0 n34 #[]).run Tryz.prog q.w' = .ok (entV es[k + 1]!).toArray q.w' := fun q => load_ent HLI.out (some_of_mem (by rw [HLn.out]; omega)) (HFr.out.trans q.fr (fun _ _ e => e)) n34 HN.out
          have l2 : ∀ q : Later wo, (loadCellsFrom ⟨b, o + k * 34, none⟩ 0 n34 #[]).run Tryz.prog q.w' = .ok (entV es[k]!).toArray q.w' := fun q => load_ent HLI.out (some_of_mem (by rw [HLn.out]; omega)) (HFr.out.trans q.fr (fun _ _ e => e)) n34 HN.out
          have cc := fun w => TcompareKeys_any es[k + 1]! es[k]! w
          have hd : decide (keyCmp es[k + 1]! es[k]! < 0) = true := by rw [← hq, ← ltOf_key]; rfl
          obtain ⟨c1, hc1⟩ : ∃ c, (entV es[k + 1]!).toArray = c := ⟨_, rfl⟩
          obtain ⟨c2, hc2⟩ : ∃ c, (entV es[k]!).toArray = c := ⟨_, rfl⟩
          obtain ⟨m, hm⟩ : ∃ m, keyCmp es[k + 1]! es[k]! = m := ⟨_, rfl⟩
          rw [hc1] at l1 cc
          rw [hc2] at l2 cc
          rw [hm] at cc hd
          have CC := Lib.hid cc
          have HQ := Lib.hid hq
          have hv := hd
          first | replace hv := of_decide_eq_true hv | replace hv := of_decide_eq_false hv
          clear hc1 hc2 hm cc hq
          go_wp2_with fail
          refine wp_region_later (w0 := wo) (Fr.refl _ _) (by kernel_rfl) (by kernel_rfl) ?_
          repeat (quiet_step ((go_at_fn 165; refine Calls.later_of (CC.out _))))
          refine wpQuiet_nil ?_
          intro _ hw'
          obtain ⟨q, hw''⟩ := hw'
          subst hw''
          go_wp2_with fail)
        (try simp only [Exit.inBlock, Exit.then])
        go_ret
        exact ⟨by rw [HX.out k (by omega) HQ.out]; rfl, (HFr.out.trans q.fr (fun _ _ e => e)).below (fun _ _ e => e)⟩
      | false =>
        (
          have l1 : ∀ q : Later wo, (loadCellsFrom ⟨b, o + (k + 1) * 34, none⟩ 0 n34 #[]).run Tryz.prog q.w' = .ok (entV es[k + 1]!).toArray q.w' := fun q => load_ent HLI.out (some_of_mem (by rw [HLn.out]; omega)) (HFr.out.trans q.fr (fun _ _ e => e)) n34 HN.out
          have l2 : ∀ q : Later wo, (loadCellsFrom ⟨b, o + k * 34, none⟩ 0 n34 #[]).run Tryz.prog q.w' = .ok (entV es[k]!).toArray q.w' := fun q => load_ent HLI.out (some_of_mem (by rw [HLn.out]; omega)) (HFr.out.trans q.fr (fun _ _ e => e)) n34 HN.out
          have cc := fun w => TcompareKeys_any es[k + 1]! es[k]! w
          have hd : decide (keyCmp es[k + 1]! es[k]! < 0) = false := by rw [← hq, ← ltOf_key]; rfl
          obtain ⟨c1, hc1⟩ : ∃ c, (entV es[k + 1]!).toArray = c := ⟨_, rfl⟩
          obtain ⟨c2, hc2⟩ : ∃ c, (entV es[k]!).toArray = c := ⟨_, rfl⟩
          obtain ⟨m, hm⟩ : ∃ m, keyCmp es[k + 1]! es[k]! = m := ⟨_, rfl⟩
          rw [hc1] at l1 cc
          rw [hc2] at l2 cc
          rw [hm] at cc hd
          have CC := Lib.hid cc
          have HQ := Lib.hid hq
          have hv := hd
          first | replace hv := of_decide_eq_true hv | replace hv := of_decide_eq_false hv
          clear hc1 hc2 hm cc hq
          go_wp2_with fail
          refine wp_region_later (w0 := wo) (Fr.refl _ _) (by kernel_rfl) (by kernel_rfl) ?_
          repeat (quiet_step ((go_at_fn 165; refine Calls.later_of (CC.out _))))
          refine wpQuiet_nil ?_
          intro _ hw'
          obtain ⟨q, hw''⟩ := hw'
          subst hw''
          go_wp2_with fail)
        go_roundg (k + 1)
        case measure => omega
        case rel => exact ⟨k + 1, by go_num, by omega, Nat.le_refl _, HFr.out.trans q.fr (fun _ _ e => e), Lib.hid (fun j hj hj1 => by
          by_cases e : j = k
          · subst e; exact HQ.out
          · exact HI.out j (by omega) hj1)⟩
    · have hpz : ¬ ((0 : Int) < (i : Int) - 1) := by omega
      go_wp2_with fail
      go_ret
      exact ⟨by rw [HY.out (fun j hj => HI.out j (by omega) hj)]; rfl, HFr.out.below (fun _ _ e => e)⟩
end Go.Proofs.YtkaeoflgnnlbeaaGreatDoor
/- What is proved: whether entries may be a tree, by the program. Conditions: the list's cells are there. -/
namespace Go.Proofs.YtkaeoflgnnlbeaaGreatDoor
open Go.RowKit Go.Sort Go.Shelf
set_option linter.unusedVariables false
theorem firstBad_drop (es : List EntTr) (k : Nat) (hk : k < es.length) : firstBad (es.drop k) = if modeB es[k]!.mode = false then 16 else if nameB es[k]!.name = false then 15 else firstBad (es.drop (k + 1)) := by
  rw [List.drop_eq_getElem_cons hk, firstBad, getElem!_pos es k hk]
theorem size_ent : (Tryz.prog.info? 212).map (·.size) = some 34 := by kernel_rfl
/-- A zero entry's cells. -/
def zeroE : Array Value := (.string { data := #[] } :: .int .i64 0 :: List.replicate 32 (Value.int .u8 0)).toArray
theorem zeroE_size : zeroE.size = 34 := rfl
theorem entV_size (e : EntTr) : (entV e).toArray.size = 34 := by rw [List.size_toArray, entV_len]
theorem entV_all (e : EntTr) : (entV e).toArray.all (·.oneCell') = true := Array.all_eq_true_iff_forall_mem.2 (fun v hv => entV_one e v (by simpa using hv))
theorem entV_name (e : EntTr) : (entV e).toArray[0]? = some (.string (strB e.name)) := rfl
theorem entV_mode (e : EntTr) : (entV e).toArray[1]? = some (.int .i64 e.mode) := rfl
set_option maxHeartbeats 3200000 in
theorem TCheck_any (A : Option Addr) (cap : Nat) (es : List EntTr) (hn : es.length ≤ 100000) (w : World) (h : Lies w A (flatE es)) :
    Calls Tryz.prog 148 #[.slice A es.length cap] w fun e w' => e = .returned (.int .i64 (chk es)) ∧ Below w.heap.size w w' := by
  have HLI := Lib.hid h
  have HC : Hid (chk es = if 64 < es.length then 3 else if firstBad es = 0 then (if twB es = true then 17 else if isrB es = true then 0 else 18) else firstBad es) := Lib.hid rfl
  have HT := Lib.hid (fun w1 (f : Fr (fun _ => False) w w1) => Ttwice_any A cap es hn w1 (h.fr f (fun _ _ e => e)))
  have HS := Lib.hid (fun w1 (f : Fr (fun _ => False) w w1) => GIsSorted_any A cap es hn w1 (h.fr f (fun _ _ e => e)))
  have HD := Lib.hid (firstBad_drop es)
  obtain ⟨r, hr⟩ : ∃ r, chk es = r := ⟨_, rfl⟩
  obtain ⟨L, hL⟩ : ∃ L, es.length = L := ⟨_, rfl⟩
  have HLn := Lib.hid hL
  obtain ⟨T, hT⟩ : ∃ T : TypeId, T = 212 := ⟨_, rfl⟩
  obtain ⟨n34, h34⟩ : ∃ n : Nat, n = 34 := ⟨_, rfl⟩
  have ag34 : ∀ w, (isAgg T).run Tryz.prog w = .ok true w := by rw [hT]; exact fun _ => by kernel_rfl
  have sz34 : ∀ w, (sizeOf T).run Tryz.prog w = .ok n34 w := by rw [hT, h34]; exact fun _ => by kernel_rfl
  have HN := Lib.hid h34
  rw [hr] at HC ⊢
  rw [hL] at hn HC HT HS HD ⊢
  clear h hr hL h34
  go_enter Tryz.func148, Tryz.ntmps148
  rw [show Op.load 212 (.tmp 12) = Op.load T (.tmp 12) by rw [hT]]
  clear hT
  by_cases hlen : 64 < L
  · have hlz : (64 : Int) < L := by omega
    go_wp2
    go_ret
    exact ⟨by rw [HC.out, if_pos hlen]; rfl, (Fr.refl (fun _ => False) w).below (fun _ _ e => e)⟩
  · have hlz : ¬ ((64 : Int) < L) := by omega
    go_wp2
    go_loopg [10] L (fun kx s10 wr => ∃ k : Nat, s10 = .int .i64 k ∧ k ≤ L ∧ L - k ≤ kx ∧ Fr (fun _ => False) w wr ∧ Hid (firstBad es = firstBad (es.drop k)))
    case atStart => exact ⟨0, rfl, by omega, by omega, Fr.refl _ _, Lib.hid rfl⟩
    case round =>
      obtain ⟨k, rfl, hk, hkx, hf, HB⟩ := hrel
      obtain ⟨wo, rfl⟩ : ∃ wo, wo = wr := ⟨wr, rfl⟩
      have HFr := Lib.hid hf
      clear hf
      have wk := wrap_nat k (by omega)
      by_cases hlt : k < L
      · have hltz : (k : Int) < L := by omega
        obtain ⟨b, o, hB⟩ := HLI.out.someE (by rw [HLn.out]; omega)
        subst hB
        have l1 : (loadCellsFrom ⟨b, o + k * 34, none⟩ 0 n34 #[]).run Tryz.prog wo = .ok (entV es[k]!).toArray wo := load_ent HLI.out (some_of_mem (by rw [HLn.out]; omega)) HFr.out n34 HN.out
        have HDk := Lib.hid (HD.out k hlt)
        obtain ⟨x, hx⟩ : ∃ x, es[k]! = x := ⟨_, rfl⟩
        rw [hx] at l1 HDk
        (
          obtain ⟨w1, hw1⟩ : ∃ w1, wo.alloc (.cells zeroE 212) = w1 := ⟨_, rfl⟩
          have HZ := Lib.hid (show Whole w1 wo.heap.size 212 zeroE from by subst hw1; exact Whole.new wo 212 zeroE)
          have HF1 := Lib.hid (show Fr (fun _ => False) wo w1 from by subst hw1; exact (Fr.refl _ wo).alloc _)
          unfold zeroE at hw1
          simp [List.replicate] at hw1)
        have hcs := entV_size x
        have HO := Lib.hid (entV_all x)
        have HN0 := Lib.hid (entV_name x)
        have HM0 := Lib.hid (entV_mode x)
        obtain ⟨ca, hca⟩ : ∃ c, (entV x).toArray = c := ⟨_, rfl⟩
        rw [hca] at l1 hcs HO HN0 HM0
        have cm := fun w => TisMode_any x.mode w
        have cn := fun w => RtName_any x.name (by have := x.hn; omega) w
        obtain ⟨S, hS⟩ : ∃ S, strB x.name = S := ⟨_, rfl⟩
        obtain ⟨m, hm⟩ : ∃ m, x.mode = m := ⟨_, rfl⟩
        obtain ⟨b1, hb1⟩ : ∃ b, modeB m = b := ⟨_, rfl⟩
        obtain ⟨b2, hb2⟩ : ∃ b, nameB x.name = b := ⟨_, rfl⟩
        rw [hS, hb2] at cn
        rw [hS] at HN0
        rw [hm] at cm HM0 HDk
        rw [hb1] at cm HDk
        rw [hb2] at HDk
        clear hx hca hS hm hb1 hb2
        cases b1
        · go_wp2_with (first
            | (refine wpList_store_at rfl 212 _ _ rfl wo.heap.size 0 212 zeroE ca rfl rfl HZ.out (by rw [zeroE_size, hcs]; exact Nat.le_refl _) (by rw [hcs]; exact size_ent) HO.out ?_; intro w2 hw2 hf2; rw [laidAt_all _ _ (by rw [zeroE_size, hcs])] at hw2; have c0 : w2.cell? ⟨wo.heap.size, 0, none⟩ = some (.string S) := (by rw [hw2.cell]; exact HN0.out); have c1 : w2.cell? ⟨wo.heap.size, 1, none⟩ = some (.int .i64 m) := (by rw [hw2.cell]; exact HM0.out); have hfr2 : Fr (fun _ => False) w w2 := (HFr.out.trans HF1.out (fun _ _ e => e)).trans hf2 (fun i hi e => by have := HFr.out.size; omega); have HF2 := Lib.hid hfr2; clear hw2 hf2 hfr2)
            | (go_at_call 160; refine (cm _).mono ?_; rintro e w' ⟨rfl, rfl⟩))
          (try simp only [Exit.inBlock, Exit.then])
          go_ret
          exact ⟨by rw [HC.out, if_neg hlen, HB.out, HDk.out]; simp, HF2.out.below (fun _ _ e => e)⟩
        · cases b2
          · go_wp2_with (first
              | (refine wpList_store_at rfl 212 _ _ rfl wo.heap.size 0 212 zeroE ca rfl rfl HZ.out (by rw [zeroE_size, hcs]; exact Nat.le_refl _) (by rw [hcs]; exact size_ent) HO.out ?_; intro w2 hw2 hf2; rw [laidAt_all _ _ (by rw [zeroE_size, hcs])] at hw2; have c0 : w2.cell? ⟨wo.heap.size, 0, none⟩ = some (.string S) := (by rw [hw2.cell]; exact HN0.out); have c1 : w2.cell? ⟨wo.heap.size, 1, none⟩ = some (.int .i64 m) := (by rw [hw2.cell]; exact HM0.out); have hfr2 : Fr (fun _ => False) w w2 := (HFr.out.trans HF1.out (fun _ _ e => e)).trans hf2 (fun i hi e => by have := HFr.out.size; omega); have HF2 := Lib.hid hfr2; clear hw2 hf2 hfr2)
              | (go_at_call 160; refine (cm _).mono ?_; rintro e w' ⟨rfl, rfl⟩)
              | (go_at_call 162; refine (cn _).mono ?_; rintro e w' ⟨rfl, rfl⟩))
            (try simp only [Exit.inBlock, Exit.then])
            go_ret
            exact ⟨by rw [HC.out, if_neg hlen, HB.out, HDk.out]; simp, HF2.out.below (fun _ _ e => e)⟩
          · go_wp2_with (first
              | (refine wpList_store_at rfl 212 _ _ rfl wo.heap.size 0 212 zeroE ca rfl rfl HZ.out (by rw [zeroE_size, hcs]; exact Nat.le_refl _) (by rw [hcs]; exact size_ent) HO.out ?_; intro w2 hw2 hf2; rw [laidAt_all _ _ (by rw [zeroE_size, hcs])] at hw2; have c0 : w2.cell? ⟨wo.heap.size, 0, none⟩ = some (.string S) := (by rw [hw2.cell]; exact HN0.out); have c1 : w2.cell? ⟨wo.heap.size, 1, none⟩ = some (.int .i64 m) := (by rw [hw2.cell]; exact HM0.out); have hfr2 : Fr (fun _ => False) w w2 := (HFr.out.trans HF1.out (fun _ _ e => e)).trans hf2 (fun i hi e => by have := HFr.out.size; omega); have HF2 := Lib.hid hfr2; clear hw2 hf2 hfr2)
              | (go_at_call 160; refine (cm _).mono ?_; rintro e w' ⟨rfl, rfl⟩)
              | (go_at_call 162; refine (cn _).mono ?_; rintro e w' ⟨rfl, rfl⟩))
            go_roundg (L - (k + 1))
            case measure => omega
            case rel => exact ⟨k + 1, by go_num, by omega, Nat.le_refl _, HF2.out, Lib.hid (by rw [HB.out, HDk.out]; simp)⟩
      · have hltz : ¬ ((k : Int) < L) := by omega
        have h0 : firstBad es = 0 := by rw [HB.out, List.drop_of_length_le (by rw [HLn.out]; omega)]; rfl
        have hc1 := HT.out wo HFr.out
        have HS1 := Lib.hid (fun w1 (b : Below wo.heap.size wo w1) => HS.out w1 (HFr.out.then_below b))
        have HH := Lib.hid h0
        obtain ⟨b1, hb1⟩ : ∃ b, twB es = b := ⟨_, rfl⟩
        obtain ⟨b2, hb2⟩ : ∃ b, isrB es = b := ⟨_, rfl⟩
        rw [hb1] at hc1 HC
        rw [hb2] at HC HS1
        have HC1 := Lib.hid hc1
        clear h0 hb1 hb2 hc1
        cases b1
        · cases b2
          · go_wp2_with (first
              | (go_at_call 163; refine HC1.out.mono ?_; rintro e w' ⟨rfl, bb⟩; have HB1 := Lib.hid bb; clear bb)
              | (go_at_call 164; refine (HS1.out _ HB1.out).mono ?_; rintro e w' ⟨rfl, bb⟩))
            go_ret
            exact ⟨by rw [HC.out, if_neg hlen, if_pos HH.out]; simp, ((HFr.out.then_below HB1.out).then_below bb).below (fun _ _ e => e)⟩
          · go_wp2_with (first
              | (go_at_call 163; refine HC1.out.mono ?_; rintro e w' ⟨rfl, bb⟩; have HB1 := Lib.hid bb; clear bb)
              | (go_at_call 164; refine (HS1.out _ HB1.out).mono ?_; rintro e w' ⟨rfl, bb⟩))
            go_ret
            exact ⟨by rw [HC.out, if_neg hlen, if_pos HH.out]; simp, ((HFr.out.then_below HB1.out).then_below bb).below (fun _ _ e => e)⟩
        · go_wp2_with (go_at_call 163; refine HC1.out.mono ?_; rintro e w' ⟨rfl, bb⟩; have HB1 := Lib.hid bb; clear bb)
          go_ret
          exact ⟨by rw [HC.out, if_neg hlen, if_pos HH.out]; simp, (HFr.out.then_below HB1.out).below (fun _ _ e => e)⟩
end Go.Proofs.YtkaeoflgnnlbeaaGreatDoor

/- What is proved: what the library's insertion sort, its change of two ranges and its turning about of two parts make of a list of entries. Conditions: the list lies in a block; the comparison's contract. -/
import Derived.Shelf.SlSortCmp.KitK
import Derived.Sort.WalkB2
import Derived.Sort.WalkB12
import Derived.Deep.LoopGhost
import Derived.Lib.Hide
import Derived.Test.YtcbgpbcfpeanjaaTra
import Derived.Test.YtcbgpbcfpeanjaaChecked
namespace Go.Proofs.Ytcbgpbcfpeanjaa
open Go.Shelf Go.RowKit Go.Lib Go.Sort
set_option linter.unusedVariables false

def insEnts_ren : Go.Shelf.Ren := ⟨fun | 20 => 50 | n => n, fun | 22 => 22 | 24 => 45 | 25 => 56 | 3 => 3 | 0 => 0 | 4 => 4 | n => n, fun | n => n⟩
theorem insEnts : Go.Proofs.SlLaysF0.n20 Try.prog insEnts_ren := {
  mixed := by kernel_rfl
  f20 := ⟨Try.f50.name, by decide, Try.func50.trans (congrArg some (by kernel_rfl))⟩
  t0 := Try.underlying0
  a0 := Try.isAgg0
  z0 := Try.sizeOf0
  v0 := Try.zeroValue0
  t3 := Try.underlying3
  a3 := Try.isAgg3
  z3 := Try.sizeOf3
  v3 := Try.zeroValue3
  t4 := Try.underlying4
  a4 := Try.isAgg4
  z4 := Try.sizeOf4
  v4 := Try.zeroValue4
  t22 := Try.underlying22
  a22 := Try.isAgg22
  z22 := Try.sizeOf22
  v22 := Try.zeroValue22
  t25 := Try.underlying56
  a25 := Try.isAgg56
  z25 := Try.sizeOf56
  v25 := Try.zeroValue56 }

section
variable {α : Type} [Inhabited α]

/-- A world of the sort's, as one more sort's start. -/
theorem cmp_from {g : Nat} {cb : Array Value} {enc : α → List Value} {k : Nat} {cf : α → α → Int} {blk off : Nat} {d0 d : Array α} {w0 w : World} (h : CmpLays Try.prog g cb enc k cf blk off d0.size w0) (R : RowK enc k w0 blk off d0) (S : SWK enc k w0 blk off d w) (hs : d.size = d0.size) : CmpLays Try.prog g cb enc k cf blk off d.size w := by
  intro m os dk hdk x y
  obtain ⟨m2, os2, e⟩ := S.on R.hblk m dk os hdk
  rw [e]
  exact h m2 os2 dk (hdk.trans hs) x y

/-- Insertion, from a world of the sort's to a world of the sort's. -/
theorem Ginsertion_any (enc : α → List Value) (cf : α → α → Int) (g : Nat) (cb : Array Value) (blk off cap a b : Nat) (d0 d : Array α) (w0 w : World)
    (eg : ∀ args w, (callFunc g args).run Try.prog w = .ok (.enter g args) w) (hcmp : CmpLays Try.prog g cb enc 34 cf blk off d0.size w0) (R : RowK enc 34 w0 blk off d0) (hs : d0.size = d.size) (S : SWK enc 34 w0 blk off d w) (hO : SWO (ltOf cf)) (ix : α → Nat) (hx : ∀ p q, a ≤ p → p < q → q < b → ix d[p]! < ix d[q]!) (hab : a ≤ b) (hb : b ≤ d.size) (hsz : d.size < 4611686018427387904) :
    Calls Try.prog 50 #[.slice (some ⟨blk, off, none⟩) d.size cap, .int .i64 a, .int .i64 b, .func (.func g) #[] cb] w fun e w' => e = .returned (.tuple #[]) ∧ ∃ d', SWK enc 34 w0 blk off d' w' ∧ St (ltOf cf) ix a b d' ∧ PermIn a b d d' := by
  have hSt := insertion_St hO a b d hab hb hx
  have aE : ∀ w, (isAgg 45).run Try.prog w = .ok true w := fun _ => by kernel_rfl
  have zE : ∀ w, (Go.sizeOf 45).run Try.prog w = .ok 34 w := fun _ => by kernel_rfl
  have hcon := AnyQ.insertionSortCmpFunc insEnts 34 aE zE enc R.hk R.h1 cf g cb blk off cap a b d w eg (cmp_from hcmp R S hs.symm) (S.holds R.hblk R.hH hs.symm) (S.lt R.hblk) hab hb hsz
  refine Calls.mono hcon ?_
  rintro e w' ⟨he, n, os, rfl⟩
  exact ⟨he, _, S.on R.hblk n _ os hSt.2.1, hSt.1, hSt.2⟩

set_option maxHeartbeats 4000000 in
set_option maxRecDepth 1000000 in
/-- Two ranges change places. -/
theorem GswapRange_any (enc : α → List Value) (g : Nat) (cb : Array Value) (blk off cap a b n : Nat) (d0 d : Array α) (w0 w : World)
    (R : RowK enc 34 w0 blk off d0) (hs : d0.size = d.size) (S : SWK enc 34 w0 blk off d w) (hab : a + n ≤ b) (hb : b + n ≤ d.size) (hsz : d.size < 4611686018427387904) :
    Calls Try.prog 65 #[.slice (some ⟨blk, off, none⟩) d.size cap, .int .i64 a, .int .i64 b, .int .i64 n, .func (.func g) #[] cb] w fun e w' => e = .returned (.tuple #[]) ∧
      ∃ d', SWK enc 34 w0 blk off d' w' ∧ PermIn a (b + n) d d' ∧ ∀ k, d'[k]! = d[sw a b n k]! := by
  obtain ⟨T, hT⟩ : ∃ T : TypeId, T = 45 := ⟨_, rfl⟩
  obtain ⟨kn, hk⟩ : ∃ n : Nat, n = 34 := ⟨_, rfl⟩
  have aE : ∀ w, (isAgg T).run Try.prog w = .ok true w := by rw [hT]; exact fun _ => by kernel_rfl
  have zE : ∀ w, (sizeOf T).run Try.prog w = .ok kn w := by rw [hT, hk]; exact fun _ => by kernel_rfl
  have HK := Lib.hid hk
  have mixed : Try.prog.follows .mixedOrders = true := by kernel_rfl
  have S0 : Aside (SWK enc 34 w0 blk off d w) := S
  clear S hk
  go_enter Try.func65, Try.ntmps65
  rw [show Op.load 45 (.tmp 28) = Op.load T (.tmp 28) by rw [hT], show Op.load 45 (.tmp 34) = Op.load T (.tmp 34) by rw [hT], show Op.store 45 (.tmp 36) (.tmp 29) = Op.store T (.tmp 36) (.tmp 29) by rw [hT], show Op.store 45 (.tmp 37) (.tmp 35) = Op.store T (.tmp 37) (.tmp 35) by rw [hT]]
  clear hT
  go_wp2
  go_loopg [10] n (fun kx s10 wr => ∃ (i : Nat) (dk : Array α), s10 = .int .i64 i ∧ i ≤ n ∧ n - i ≤ kx ∧ dk.size = d.size ∧ Aside (SWK enc 34 w0 blk off dk wr) ∧ Hid (PermIn a (b + n) d dk) ∧ Hid (∀ k, dk[k]! = d[sw a b i k]!))
  case atStart => exact ⟨0, d, rfl, Nat.zero_le _, by omega, rfl, S0, Lib.hid (permIn_refl _ _ _), Lib.hid (fun k => by rw [sw_zero])⟩
  case round =>
    clear S0
    obtain ⟨i, dk, rfl, hi, hkx, hds, S1, HP, HW⟩ := hrel
    by_cases hlt : i < n
    · have hltz : (i : Int) < (n : Int) := by omega
      go_wp2_with fail
      have ea44 : ((a : Int) + (i : Int)).toNat = a + i := by omega
      have pa44 : (0 : Int) ≤ (a : Int) + (i : Int) := by omega
      have ba44 : (a : Int) + (i : Int) < (d.size : Int) := by omega
      have ra44 : IntKind.i64.wrap ((a : Int) + (i : Int)) = (a : Int) + (i : Int) := by rw [IntKind.wrap_i64]; omega
      have ec44 : ((b : Int) + (i : Int)).toNat = b + i := by omega
      have pc44 : (0 : Int) ≤ (b : Int) + (i : Int) := by omega
      have bc44 : (b : Int) + (i : Int) < (d.size : Int) := by omega
      have rc44 : IntKind.i64.wrap ((b : Int) + (i : Int)) = (b : Int) + (i : Int) := by rw [IntKind.wrap_i64]; omega
      have S2 : Aside (SWK enc 34 w0 blk off (swp dk (a + i) (b + i)) ((wr.drew.setCells blk (off + (a + i) * 34) (enc dk[b + i]!)).setCells blk (off + (b + i) * 34) (enc dk[a + i]!))) := S1.out.swapped R (a + i) (b + i) (by omega) (by omega)
      have l44a := S1.out.ld1 R (by omega) Try.prog (a + i) (by omega)
      have l44b := S1.out.ld1 R (by omega) Try.prog (b + i) (by omega)
      have s44a := S1.out.st1 R (by omega) Try.prog (a + i) (by omega) dk[b + i]!
      have s44b := S1.out.st2 R (by omega) Try.prog (a + i) (b + i) (by omega) (by omega) dk[b + i]! dk[a + i]!
      have n44a : (enc dk[a + i]!).length = kn := by rw [HK.out]; exact R.hk _
      have n44b : (enc dk[b + i]!).length = kn := by rw [HK.out]; exact R.hk _
      generalize enc dk[a + i]! = cI44 at S2 l44a s44b n44a
      generalize enc dk[b + i]! = cJ44 at S2 l44b s44a s44b n44b
      have l1 : Sem.run Try.prog (loadCellsFrom ⟨blk, off + (a + i) * 34, none⟩ 0 kn #[]) wr.drew = .ok cI44.toArray wr.drew := by rw [HK.out]; exact l44a
      have l2 : Sem.run Try.prog (loadCellsFrom ⟨blk, off + (b + i) * 34, none⟩ 0 kn #[]) wr.drew = .ok cJ44.toArray wr.drew := by rw [HK.out]; exact l44b
      clear S1 l44a l44b
      go_wp2_with fail
      go_big_region_o
      clear l1 l2 s44a s44b
      generalize (wr.drew.setCells blk (off + (a + i) * 34) cJ44).setCells blk (off + (b + i) * 34) cI44 = w2 at S2 ⊢
      go_wp2
      go_roundg (n - (i + 1))
      case measure => omega
      case rel => exact ⟨i + 1, swp dk (a + i) (b + i), by simp, by omega, Nat.le_refl _, by rw [size_swp]; exact hds, S2, Lib.hid (permIn_trans _ _ _ _ _ HP.out (swp_permIn dk a (b + n) (a + i) (b + i) (by omega) (by omega) (by omega) (by omega) (by omega))), Lib.hid (sw_step d dk a b i (by omega) (by omega) HW.out)⟩
    · have hltz : ¬ ((i : Int) < (n : Int)) := by omega
      go_wp2
      go_end0
      obtain rfl : i = n := by omega
      exact ⟨rfl, dk, S1.out, HP.out, HW.out⟩

set_option maxHeartbeats 4000000 in
set_option maxRecDepth 1000000 in
/-- Two parts change places. -/
theorem Grotate_any (enc : α → List Value) (g : Nat) (cb : Array Value) (blk off cap a m b : Nat) (d0 d : Array α) (w0 w : World)
    (R : RowK enc 34 w0 blk off d0) (hs : d0.size = d.size) (S : SWK enc 34 w0 blk off d w) (ham : a < m) (hmb : m < b) (hb : b ≤ d.size) (hsz : d.size < 4611686018427387904) :
    Calls Try.prog 59 #[.slice (some ⟨blk, off, none⟩) d.size cap, .int .i64 a, .int .i64 m, .int .i64 b, .func (.func g) #[] cb] w fun e w' => e = .returned (.tuple #[]) ∧
      ∃ d', SWK enc 34 w0 blk off d' w' ∧ PermIn a b d d' ∧ ∀ k, d'[k]! = d[src m (m - a) (b - m) k]! := by
  have S0 : Aside (SWK enc 34 w0 blk off d w) := S
  clear S
  go_enter Try.func59, Try.ntmps59
  go_wp2
  go_loopg [10, 11] (b - a) (fun kx s10 s11 wr => ∃ (i j : Nat) (dk : Array α), s10 = .int .i64 i ∧ s11 = .int .i64 j ∧ 0 < i ∧ 0 < j ∧ i ≤ m - a ∧ j ≤ b - m ∧ i + j ≤ kx ∧ dk.size = d.size ∧ Aside (SWK enc 34 w0 blk off dk wr) ∧ Hid (PermIn a b d dk) ∧ Hid (∀ k, dk[src m i j k]! = d[src m (m - a) (b - m) k]!))
  case atStart => exact ⟨m - a, b - m, d, by go_num, by go_num, by omega, by omega, by omega, by omega, by omega, rfl, S0, Lib.hid (permIn_refl _ _ _), Lib.hid (fun k => rfl)⟩
  case round =>
    clear S0
    obtain ⟨i, j, dk, rfl, rfl, hi0, hj0, hi, hj, hkx, hds, S1, HP, HW⟩ := hrel
    have em : (m : Int) - (i : Int) = ((m - i : Nat) : Int) := by omega
    have emj : (m : Int) + (j : Int) - (i : Int) = ((m + j - i : Nat) : Int) := by omega
    have hso : dk.size = d.size := hds
    by_cases hij : i = j
    · subst hij
      have hc := GswapRange_any enc g cb blk off cap (m - i) m i d0 dk w0 wr R (by omega) S1.out (by omega) (by omega) (by omega)
      rw [hds] at hc
      have HC := Lib.hid hc
      clear hc
      go_wp2_with (go_at_call 65; refine HC.out.mono ?_; rintro e w' ⟨rfl, d', S2, hp, hw⟩)
      go_end0
      exact ⟨rfl, d', S2, permIn_trans _ _ _ _ _ HP.out (permIn_mono _ _ _ _ _ _ (by omega) (by omega) (by omega) hp), fun k => by rw [hw, sw_even m i k (by omega)]; exact HW.out k⟩
    · have hne : ¬ ((i : Int) = (j : Int)) := by omega
      by_cases hlt : j < i
      · have hltz : (j : Int) < (i : Int) := by omega
        have hc := GswapRange_any enc g cb blk off cap (m - i) m j d0 dk w0 wr R (by omega) S1.out (by omega) (by omega) (by omega)
        rw [hds] at hc
        have HC := Lib.hid hc
        clear hc
        go_wp2_with (go_at_call 65; refine HC.out.mono ?_; rintro e w' ⟨rfl, d', S2, hp, hw⟩)
        go_roundg (i - j + j)
        case measure => omega
        case rel => exact ⟨i - j, j, d', by go_num, rfl, by omega, by omega, by omega, by omega, Nat.le_refl _, hp.1.trans hds, S2, Lib.hid (permIn_trans _ _ _ _ _ HP.out (permIn_mono _ _ _ _ _ _ (by omega) (by omega) (by omega) hp)), Lib.hid (fun k => by rw [hw, sw_more m i j k (by omega) hlt]; exact HW.out k)⟩
      · have hltz : ¬ ((j : Int) < (i : Int)) := by omega
        have hc := GswapRange_any enc g cb blk off cap (m - i) (m + j - i) i d0 dk w0 wr R (by omega) S1.out (by omega) (by omega) (by omega)
        rw [hds] at hc
        have HC := Lib.hid hc
        clear hc
        go_wp2_with (go_at_call 65; refine HC.out.mono ?_; rintro e w' ⟨rfl, d', S2, hp, hw⟩)
        go_roundg (i + (j - i))
        case measure => omega
        case rel => exact ⟨i, j - i, d', rfl, by go_num, by omega, by omega, by omega, by omega, Nat.le_refl _, hp.1.trans hds, S2, Lib.hid (permIn_trans _ _ _ _ _ HP.out (permIn_mono _ _ _ _ _ _ (by omega) (by omega) (by omega) hp)), Lib.hid (fun k => by rw [hw, sw_less m i j k (by omega) (by omega)]; exact HW.out k)⟩
end
end Go.Proofs.Ytcbgpbcfpeanjaa

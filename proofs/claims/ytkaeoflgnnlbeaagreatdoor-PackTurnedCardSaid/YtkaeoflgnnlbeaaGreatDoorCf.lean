/- What is proved: what the walks of this seat need of layers below, merged out of the texts Trc (of each just what is needed). Conditions: each theorem names its own. -/
import Derived.Deep.DeepCutAuto
import Derived.Test.YtkaeoflgnnlbeaaGreatDoorCe
/- What is proved: the library's merge of two parts of a list of entries in place: each in order, the one stood ahead of the other: all are in order behind it. Conditions: the list lies in a block; the comparison's contract. -/
namespace Go.Proofs.YtkaeoflgnnlbeaaGreatDoor
open Go.Shelf Go.RowKit Go.Lib Go.Sort
set_option linter.unusedVariables false
section
variable {α : Type} [Inhabited α]
set_option maxHeartbeats 8000000 in
set_option maxRecDepth 1000000 in
/-- One element ahead of a part. -/
theorem GsymMerge_first (enc : α → List Value) (cf : α → α → Int) (ixf : α → Nat) (g : Nat) (cb : Array Value) (blk off cap a b : Nat) (d0 d : Array α) (w0 w : World)
    (eg : ∀ args w, (callFunc g args).run Tryz.prog w = .ok (.enter g args) w) (hO : SWO (ltOf cf)) (hcmp : CmpLays Tryz.prog g cb enc 34 cf blk off d0.size w0) (R : RowK enc 34 w0 blk off d0) (hs : d0.size = d.size) (S : SWK enc 34 w0 blk off d w)
    (ht : Two (ltOf cf) ixf a (a + 1) b d) (hmb : a + 1 < b) (hb : b ≤ d.size) (hsz : d.size < 1000000) :
    Calls Tryz.prog 228 #[.slice (some ⟨blk, off, none⟩) d.size cap, .int .i64 a, .int .i64 (a + 1 : Int), .int .i64 b, .func (.func g) #[] cb] w fun e w' => e = .returned (.tuple #[]) ∧
      ∃ d', SWK enc 34 w0 blk off d' w' ∧ PermIn a b d d' ∧ St (ltOf cf) ixf a b d' := by
  obtain ⟨T, hT⟩ : ∃ T : TypeId, T = 212 := ⟨_, rfl⟩
  obtain ⟨kn, hk⟩ : ∃ n : Nat, n = 34 := ⟨_, rfl⟩
  have aE : ∀ w, (isAgg T).run Tryz.prog w = .ok true w := by rw [hT]; exact fun _ => by kernel_rfl
  have zE : ∀ w, (sizeOf T).run Tryz.prog w = .ok kn w := by rw [hT, hk]; exact fun _ => by kernel_rfl
  have HK := Lib.hid hk
  have mixed : Tryz.prog.follows .mixedOrders = true := by kernel_rfl
  have S0 : Aside (SWK enc 34 w0 blk off d w) := S
  have HC : Aside _ := hcmp
  have HT := Lib.hid ht
  clear S hk hcmp ht
  go_enter Tryz.func228, Tryz.ntmps228
  rw [show Op.load 212 (.tmp 43) = Op.load T (.tmp 43) by rw [hT], show Op.load 212 (.tmp 47) = Op.load T (.tmp 47) by rw [hT], show Op.load 212 (.tmp 69) = Op.load T (.tmp 69) by rw [hT], show Op.load 212 (.tmp 73) = Op.load T (.tmp 73) by rw [hT],
    show Op.store 212 (.tmp 75) (.tmp 70) = Op.store T (.tmp 75) (.tmp 70) by rw [hT], show Op.store 212 (.tmp 76) (.tmp 74) = Op.store T (.tmp 76) (.tmp 74) by rw [hT]]
  clear hT
  have h1 : (a : Int) + 1 - a = 1 := by omega
  go_wp2
  go_loopg [10, 11] (b - a) (fun kx s10 s11 wr => ∃ (i j : Nat), s10 = .int .i64 i ∧ s11 = .int .i64 j ∧ a + 1 ≤ i ∧ i ≤ j ∧ j ≤ b ∧ j - i ≤ kx ∧ Aside (SWK enc 34 w0 blk off d wr) ∧ Hid ((∀ k, a + 1 ≤ k → k < i → ltOf cf d[k]! d[a]! = true) ∧ (∀ k, j ≤ k → k < b → ltOf cf d[k]! d[a]! = false)))
  case atStart => exact ⟨a + 1, b, by go_num, rfl, by omega, by omega, by omega, by omega, S0, Lib.hid ⟨fun k k1 k2 => by omega, fun k k1 k2 => by omega⟩⟩
  case round =>
    clear S0
    obtain ⟨i, j, rfl, rfl, hai, hij, hjb, hkx, S1, HI⟩ := hrel
    obtain ⟨dk, hdk⟩ : ∃ x, x = d := ⟨_, rfl⟩
    by_cases hlt : i < j
    · have hltz : (i : Int) < (j : Int) := by omega
      obtain ⟨h, hh⟩ : ∃ h, h = (i + j) / 2 := ⟨_, rfl⟩
      have hhz : ((i : Int) + (j : Int)) / 2 = (h : Int) := by omega
      have hh1 : i ≤ h := by omega
      have hh2 : h < j := by omega
      clear hh
      rw [← hdk] at S1
      have hdks : dk.size = d.size := by rw [hdk]
      (
      have ea1 : ((h : Int)).toNat = h := by omega
      have pa1 : (0 : Int) ≤ (h : Int) := by omega
      have ba1 : (h : Int) < (d.size : Int) := by omega
      have ra1 : IntKind.i64.wrap ((h : Int)) = (h : Int) := by rw [IntKind.wrap_i64]; omega)
      (
      have ea2 : ((a : Int)).toNat = a := by omega
      have pa2 : (0 : Int) ≤ (a : Int) := by omega
      have ba2 : (a : Int) < (d.size : Int) := by omega
      have ra2 : IntKind.i64.wrap ((a : Int)) = (a : Int) := by rw [IntKind.wrap_i64]; omega)
      cases hL : ltOf cf dk[h]! dk[a]! with
      | true =>
        (
        obtain ⟨xx, hxx⟩ : ∃ x, x = dk[h]! := ⟨_, rfl⟩
        obtain ⟨yy, hyy⟩ : ∃ x, x = dk[a]! := ⟨_, rfl⟩
        have la : ∀ n os, Sem.run Tryz.prog (loadCellsFrom ⟨blk, off + (h) * 34, none⟩ 0 kn #[]) (grow (wr.drewN n) os) = .ok (enc dk[h]!).toArray (grow (wr.drewN n) os) := fun n os => by rw [HK.out]; exact S1.out.ld R (by omega) Tryz.prog (h) (by omega) n os
        have lb : ∀ n os, Sem.run Tryz.prog (loadCellsFrom ⟨blk, off + (a) * 34, none⟩ 0 kn #[]) (grow (wr.drewN n) os) = .ok (enc dk[a]!).toArray (grow (wr.drewN n) os) := fun n os => by rw [HK.out]; exact S1.out.ld R (by omega) Tryz.prog (a) (by omega) n os
        rw [← hxx] at la
        rw [← hyy] at lb
        have hc := S1.out.cmp HC.out (by omega) xx yy
        have hd : decide (cf xx yy < 0) = true := by rw [hxx, hyy]; exact hL
        have hv := hd
        first | replace hv := of_decide_eq_true hv | replace hv := of_decide_eq_false hv
        clear hxx hyy
        go_wp2_with fail
        go_quiet_grown (first | (go_at_fn g; refine Calls.grown_of (hc _ _)))
        have S2 : Aside (SWK enc 34 w0 blk off dk (grow (wr.drewN nq) osq)) := S1.out.grown nq osq
        clear la lb hc S1
        generalize grow (wr.drewN nq) osq = w2 at S2 ⊢
        clear nq osq hd hv)
        go_wp2
        go_roundg (j - (h + 1))
        case measure => omega
        case rel =>
          refine ⟨h + 1, j, by go_num, rfl, by omega, by omega, hjb, Nat.le_refl _, hdk ▸ S2, Lib.hid ⟨fun k k1 k2 => ?_, HI.out.2⟩⟩
          rw [hdk] at hL
          by_cases hkh : k = h
          · rw [hkh]; exact hL
          · exact ((HT.out.right k h k1 (by omega) (by omega)).trans hO (.inl hL)).lt_of (HT.out.cross a k (Nat.le_refl _) (by omega) k1 (by omega))
      | false =>
        (
        obtain ⟨xx, hxx⟩ : ∃ x, x = dk[h]! := ⟨_, rfl⟩
        obtain ⟨yy, hyy⟩ : ∃ x, x = dk[a]! := ⟨_, rfl⟩
        have la : ∀ n os, Sem.run Tryz.prog (loadCellsFrom ⟨blk, off + (h) * 34, none⟩ 0 kn #[]) (grow (wr.drewN n) os) = .ok (enc dk[h]!).toArray (grow (wr.drewN n) os) := fun n os => by rw [HK.out]; exact S1.out.ld R (by omega) Tryz.prog (h) (by omega) n os
        have lb : ∀ n os, Sem.run Tryz.prog (loadCellsFrom ⟨blk, off + (a) * 34, none⟩ 0 kn #[]) (grow (wr.drewN n) os) = .ok (enc dk[a]!).toArray (grow (wr.drewN n) os) := fun n os => by rw [HK.out]; exact S1.out.ld R (by omega) Tryz.prog (a) (by omega) n os
        rw [← hxx] at la
        rw [← hyy] at lb
        have hc := S1.out.cmp HC.out (by omega) xx yy
        have hd : decide (cf xx yy < 0) = false := by rw [hxx, hyy]; exact hL
        have hv := hd
        first | replace hv := of_decide_eq_true hv | replace hv := of_decide_eq_false hv
        clear hxx hyy
        go_wp2_with fail
        go_quiet_grown (first | (go_at_fn g; refine Calls.grown_of (hc _ _)))
        have S2 : Aside (SWK enc 34 w0 blk off dk (grow (wr.drewN nq) osq)) := S1.out.grown nq osq
        clear la lb hc S1
        generalize grow (wr.drewN nq) osq = w2 at S2 ⊢
        clear nq osq hd hv)
        go_wp2
        go_roundg (h - i)
        case measure => omega
        case rel =>
          refine ⟨i, h, rfl, rfl, hai, hh1, by omega, Nat.le_refl _, hdk ▸ S2, Lib.hid ⟨HI.out.1, fun k k1 k2 => ?_⟩⟩
          rw [hdk] at hL
          by_cases hkh : k = h
          · rw [hkh]; exact hL
          · cases hx : ltOf cf d[k]! d[a]! with
            | false => rfl
            | true => have := ((HT.out.right h k (by omega) (by omega) k2).trans hO (.inl hx)).lt_of (HT.out.cross a h (Nat.le_refl _) (by omega) (by omega) (by omega)); rw [hL] at this; cases this
    · obtain rfl : i = j := by omega
      clear hdk dk
      have h0 : ¬ ((i : Int) < (i : Int)) := by omega
      go_wp2
      go_loopg [13] (b - a) (fun kx s13 wr2 => ∃ (k : Nat) (dk : Array α), s13 = .int .i64 k ∧ a ≤ k ∧ k + 1 ≤ i ∧ i - k ≤ kx ∧ dk.size = d.size ∧ Aside (SWK enc 34 w0 blk off dk wr2) ∧ Hid (PermIn a b d dk) ∧ Hid (∀ t, dk[t]! = d[src (a + 1) 1 (k - a) t]!))
      case atStart => exact ⟨a, d, rfl, Nat.le_refl _, by omega, by omega, rfl, S1, Lib.hid (permIn_refl _ _ _), Lib.hid (fun t => by rw [Nat.sub_self, src_none2])⟩
      case round =>
        clear S1
        obtain ⟨k, dk, rfl, hak, hki, hkx2, hds, S3, HP, HW⟩ := hrel
        by_cases hlt2 : k + 1 < i
        · have hltz : (k : Int) < (i : Int) - 1 := by omega
          (
          have ea1 : ((k : Int)).toNat = k := by omega
          have pa1 : (0 : Int) ≤ (k : Int) := by omega
          have ba1 : (k : Int) < (d.size : Int) := by omega
          have ra1 : IntKind.i64.wrap ((k : Int)) = (k : Int) := by rw [IntKind.wrap_i64]; omega)
          (
          have ea2 : ((k : Int) + 1).toNat = k + 1 := by omega
          have pa2 : (0 : Int) ≤ (k : Int) + 1 := by omega
          have ba2 : (k : Int) + 1 < (d.size : Int) := by omega
          have ra2 : IntKind.i64.wrap ((k : Int) + 1) = (k : Int) + 1 := by rw [IntKind.wrap_i64]; omega)
          (
          have S2 : Aside (SWK enc 34 w0 blk off (swp dk (k) (k + 1)) ((wr.drew.setCells blk (off + (k) * 34) (enc dk[k + 1]!)).setCells blk (off + (k + 1) * 34) (enc dk[k]!))) := S3.out.swapped R (k) (k + 1) (by omega) (by omega)
          have l44a := S3.out.ld1 R (by omega) Tryz.prog (k) (by omega)
          have l44b := S3.out.ld1 R (by omega) Tryz.prog (k + 1) (by omega)
          have s44a := S3.out.st1 R (by omega) Tryz.prog (k) (by omega) dk[k + 1]!
          have s44b := S3.out.st2 R (by omega) Tryz.prog (k) (k + 1) (by omega) (by omega) dk[k + 1]! dk[k]!
          have n44a : (enc dk[k]!).length = kn := by rw [HK.out]; exact R.hk _
          have n44b : (enc dk[k + 1]!).length = kn := by rw [HK.out]; exact R.hk _
          generalize enc dk[k]! = cI44 at S2 l44a s44b n44a
          generalize enc dk[k + 1]! = cJ44 at S2 l44b s44a s44b n44b
          have l1 : Sem.run Tryz.prog (loadCellsFrom ⟨blk, off + (k) * 34, none⟩ 0 kn #[]) wr.drew = .ok cI44.toArray wr.drew := by rw [HK.out]; exact l44a
          have l2 : Sem.run Tryz.prog (loadCellsFrom ⟨blk, off + (k + 1) * 34, none⟩ 0 kn #[]) wr.drew = .ok cJ44.toArray wr.drew := by rw [HK.out]; exact l44b
          clear S3 l44a l44b
          go_wp2_with fail
          go_big_region_o
          clear l1 l2 s44a s44b
          generalize (wr.drew.setCells blk (off + (k) * 34) cJ44).setCells blk (off + (k + 1) * 34) cI44 = w2 at S2 ⊢)
          go_wp2
          go_roundg (i - (k + 1))
          case measure => omega
          case rel => exact ⟨k + 1, swp dk k (k + 1), by simp, by omega, by omega, Nat.le_refl _, by rw [size_swp]; exact hds, S2, Lib.hid (permIn_trans _ _ _ _ _ HP.out (swp_permIn dk a b k (k + 1) (by omega) (by omega) (by omega) (by omega) (by omega))), Lib.hid (src_up d dk a k hak (by omega) HW.out)⟩
        · have hltz : ¬ ((k : Int) < (i : Int) - 1) := by omega
          go_wp2
          obtain rfl : i = k + 1 := by omega
          (try simp only [Exit.inBlock, Exit.then])
          refine bodyPost_ret (results_none rfl _ _ _) rfl ?_
          exact ⟨rfl, dk, S3.out, HP.out, HT.out.first (i := k + 1) (by omega) (by omega) HI.out.1 HI.out.2 (fun t => by rw [HW.out t, show k + 1 - (a + 1) = k - a by omega])⟩
set_option maxHeartbeats 8000000 in
set_option maxRecDepth 1000000 in
/-- One element behind a part. -/
theorem GsymMerge_last (enc : α → List Value) (cf : α → α → Int) (ixf : α → Nat) (g : Nat) (cb : Array Value) (blk off cap a m : Nat) (d0 d : Array α) (w0 w : World)
    (eg : ∀ args w, (callFunc g args).run Tryz.prog w = .ok (.enter g args) w) (hO : SWO (ltOf cf)) (hcmp : CmpLays Tryz.prog g cb enc 34 cf blk off d0.size w0) (R : RowK enc 34 w0 blk off d0) (hs : d0.size = d.size) (S : SWK enc 34 w0 blk off d w)
    (ht : Two (ltOf cf) ixf a m (m + 1) d) (ham : a + 2 ≤ m) (hb : m + 1 ≤ d.size) (hsz : d.size < 1000000) :
    Calls Tryz.prog 228 #[.slice (some ⟨blk, off, none⟩) d.size cap, .int .i64 a, .int .i64 m, .int .i64 (m + 1 : Int), .func (.func g) #[] cb] w fun e w' => e = .returned (.tuple #[]) ∧
      ∃ d', SWK enc 34 w0 blk off d' w' ∧ PermIn a (m + 1) d d' ∧ St (ltOf cf) ixf a (m + 1) d' := by
  obtain ⟨T, hT⟩ : ∃ T : TypeId, T = 212 := ⟨_, rfl⟩
  obtain ⟨kn, hk⟩ : ∃ n : Nat, n = 34 := ⟨_, rfl⟩
  have aE : ∀ w, (isAgg T).run Tryz.prog w = .ok true w := by rw [hT]; exact fun _ => by kernel_rfl
  have zE : ∀ w, (sizeOf T).run Tryz.prog w = .ok kn w := by rw [hT, hk]; exact fun _ => by kernel_rfl
  have HK := Lib.hid hk
  have mixed : Tryz.prog.follows .mixedOrders = true := by kernel_rfl
  have S0 : Aside (SWK enc 34 w0 blk off d w) := S
  have HC : Aside _ := hcmp
  have HT := Lib.hid ht
  clear S hk hcmp ht
  go_enter Tryz.func228, Tryz.ntmps228
  rw [show Op.load 212 (.tmp 95) = Op.load T (.tmp 95) by rw [hT], show Op.load 212 (.tmp 99) = Op.load T (.tmp 99) by rw [hT], show Op.load 212 (.tmp 121) = Op.load T (.tmp 121) by rw [hT], show Op.load 212 (.tmp 125) = Op.load T (.tmp 125) by rw [hT],
    show Op.store 212 (.tmp 127) (.tmp 122) = Op.store T (.tmp 127) (.tmp 122) by rw [hT], show Op.store 212 (.tmp 128) (.tmp 126) = Op.store T (.tmp 128) (.tmp 126) by rw [hT]]
  clear hT
  have h1 : ¬ ((m : Int) - a = 1) := by omega
  have h1b : ((m : Int) - a == 1) = false := by simp [h1]
  have h2 : (m : Int) + 1 - m = 1 := by omega
  go_wp2
  go_loopg [14, 15] (m + 1 - a) (fun kx s10 s11 wr => ∃ (i j : Nat), s10 = .int .i64 i ∧ s11 = .int .i64 j ∧ a ≤ i ∧ i ≤ j ∧ j ≤ m ∧ j - i ≤ kx ∧ Aside (SWK enc 34 w0 blk off d wr) ∧ Hid ((∀ k, a ≤ k → k < i → ltOf cf d[m]! d[k]! = false) ∧ (∀ k, j ≤ k → k < m → ltOf cf d[m]! d[k]! = true)))
  case atStart => exact ⟨a, m, rfl, rfl, by omega, by omega, by omega, by omega, S0, Lib.hid ⟨fun k k1 k2 => by omega, fun k k1 k2 => by omega⟩⟩
  case round =>
    clear S0
    obtain ⟨i, j, rfl, rfl, hai, hij, hjb, hkx, S1, HI⟩ := hrel
    obtain ⟨dk, hdk⟩ : ∃ x, x = d := ⟨_, rfl⟩
    by_cases hlt : i < j
    · have hltz : (i : Int) < (j : Int) := by omega
      obtain ⟨h, hh⟩ : ∃ h, h = (i + j) / 2 := ⟨_, rfl⟩
      have hhz : ((i : Int) + (j : Int)) / 2 = (h : Int) := by omega
      have hh1 : i ≤ h := by omega
      have hh2 : h < j := by omega
      clear hh
      rw [← hdk] at S1
      have hdks : dk.size = d.size := by rw [hdk]
      (
      have ea1 : ((h : Int)).toNat = h := by omega
      have pa1 : (0 : Int) ≤ (h : Int) := by omega
      have ba1 : (h : Int) < (d.size : Int) := by omega
      have ra1 : IntKind.i64.wrap ((h : Int)) = (h : Int) := by rw [IntKind.wrap_i64]; omega)
      (
      have ea2 : ((m : Int)).toNat = m := by omega
      have pa2 : (0 : Int) ≤ (m : Int) := by omega
      have ba2 : (m : Int) < (d.size : Int) := by omega
      have ra2 : IntKind.i64.wrap ((m : Int)) = (m : Int) := by rw [IntKind.wrap_i64]; omega)
      cases hL : ltOf cf dk[m]! dk[h]! with
      | false =>
        (
        obtain ⟨xx, hxx⟩ : ∃ x, x = dk[m]! := ⟨_, rfl⟩
        obtain ⟨yy, hyy⟩ : ∃ x, x = dk[h]! := ⟨_, rfl⟩
        have la : ∀ n os, Sem.run Tryz.prog (loadCellsFrom ⟨blk, off + (m) * 34, none⟩ 0 kn #[]) (grow (wr.drewN n) os) = .ok (enc dk[m]!).toArray (grow (wr.drewN n) os) := fun n os => by rw [HK.out]; exact S1.out.ld R (by omega) Tryz.prog (m) (by omega) n os
        have lb : ∀ n os, Sem.run Tryz.prog (loadCellsFrom ⟨blk, off + (h) * 34, none⟩ 0 kn #[]) (grow (wr.drewN n) os) = .ok (enc dk[h]!).toArray (grow (wr.drewN n) os) := fun n os => by rw [HK.out]; exact S1.out.ld R (by omega) Tryz.prog (h) (by omega) n os
        rw [← hxx] at la
        rw [← hyy] at lb
        have hc := S1.out.cmp HC.out (by omega) xx yy
        have hd : decide (cf xx yy < 0) = false := by rw [hxx, hyy]; exact hL
        have hv := hd
        first | replace hv := of_decide_eq_true hv | replace hv := of_decide_eq_false hv
        clear hxx hyy
        go_wp2_with fail
        go_quiet_grown (first | (go_at_fn g; refine Calls.grown_of (hc _ _)))
        have S2 : Aside (SWK enc 34 w0 blk off dk (grow (wr.drewN nq) osq)) := S1.out.grown nq osq
        clear la lb hc S1
        generalize grow (wr.drewN nq) osq = w2 at S2 ⊢
        clear nq osq hd hv)
        go_wp2
        go_roundg (j - (h + 1))
        case measure => omega
        case rel =>
          refine ⟨h + 1, j, by go_num, rfl, by omega, by omega, hjb, Nat.le_refl _, hdk ▸ S2, Lib.hid ⟨fun k k1 k2 => ?_, HI.out.2⟩⟩
          rw [hdk] at hL
          by_cases hkh : k = h
          · rw [hkh]; exact hL
          · cases hx : ltOf cf d[m]! d[k]! with
            | false => rfl
            | true => have := ((LL.trans hO (.inl hx) (HT.out.left k h k1 (by omega) (by omega)))).lt_of (HT.out.cross h m (by omega) (by omega) (Nat.le_refl _) (by omega)); rw [hL] at this; cases this
      | true =>
        (
        obtain ⟨xx, hxx⟩ : ∃ x, x = dk[m]! := ⟨_, rfl⟩
        obtain ⟨yy, hyy⟩ : ∃ x, x = dk[h]! := ⟨_, rfl⟩
        have la : ∀ n os, Sem.run Tryz.prog (loadCellsFrom ⟨blk, off + (m) * 34, none⟩ 0 kn #[]) (grow (wr.drewN n) os) = .ok (enc dk[m]!).toArray (grow (wr.drewN n) os) := fun n os => by rw [HK.out]; exact S1.out.ld R (by omega) Tryz.prog (m) (by omega) n os
        have lb : ∀ n os, Sem.run Tryz.prog (loadCellsFrom ⟨blk, off + (h) * 34, none⟩ 0 kn #[]) (grow (wr.drewN n) os) = .ok (enc dk[h]!).toArray (grow (wr.drewN n) os) := fun n os => by rw [HK.out]; exact S1.out.ld R (by omega) Tryz.prog (h) (by omega) n os
        rw [← hxx] at la
        rw [← hyy] at lb
        have hc := S1.out.cmp HC.out (by omega) xx yy
        have hd : decide (cf xx yy < 0) = true := by rw [hxx, hyy]; exact hL
        have hv := hd
        first | replace hv := of_decide_eq_true hv | replace hv := of_decide_eq_false hv
        clear hxx hyy
        go_wp2_with fail
        go_quiet_grown (first | (go_at_fn g; refine Calls.grown_of (hc _ _)))
        have S2 : Aside (SWK enc 34 w0 blk off dk (grow (wr.drewN nq) osq)) := S1.out.grown nq osq
        clear la lb hc S1
        generalize grow (wr.drewN nq) osq = w2 at S2 ⊢
        clear nq osq hd hv)
        go_wp2
        go_roundg (h - i)
        case measure => omega
        case rel =>
          refine ⟨i, h, rfl, rfl, hai, hh1, by omega, Nat.le_refl _, hdk ▸ S2, Lib.hid ⟨HI.out.1, fun k k1 k2 => ?_⟩⟩
          rw [hdk] at hL
          by_cases hkh : k = h
          · rw [hkh]; exact hL
          · exact (LL.trans hO (.inl hL) (HT.out.left h k (by omega) (by omega) k2)).lt_of (HT.out.cross k m (by omega) k2 (Nat.le_refl _) (by omega))
    · obtain rfl : i = j := by omega
      clear hdk dk
      have h0 : ¬ ((i : Int) < (i : Int)) := by omega
      go_wp2
      go_loopg [17] (m + 1 - a) (fun kx s13 wr2 => ∃ (k : Nat) (dk : Array α), s13 = .int .i64 k ∧ i ≤ k ∧ k ≤ m ∧ k - i ≤ kx ∧ dk.size = d.size ∧ Aside (SWK enc 34 w0 blk off dk wr2) ∧ Hid (PermIn a (m + 1) d dk) ∧ Hid (∀ t, dk[t]! = d[src m (m - k) 1 t]!))
      case atStart => exact ⟨m, d, rfl, hjb, Nat.le_refl _, by omega, rfl, S1, Lib.hid (permIn_refl _ _ _), Lib.hid (fun t => by rw [Nat.sub_self, src_none])⟩
      case round =>
        clear S1
        obtain ⟨k, dk, rfl, hik, hkm, hkx2, hds, S3, HP, HW⟩ := hrel
        by_cases hlt2 : i < k
        · have hltz : (i : Int) < (k : Int) := by omega
          (
          have ea1 : ((k : Int)).toNat = k := by omega
          have pa1 : (0 : Int) ≤ (k : Int) := by omega
          have ba1 : (k : Int) < (d.size : Int) := by omega
          have ra1 : IntKind.i64.wrap ((k : Int)) = (k : Int) := by rw [IntKind.wrap_i64]; omega)
          (
          have ea2 : ((k : Int) - 1).toNat = k - 1 := by omega
          have pa2 : (0 : Int) ≤ (k : Int) - 1 := by omega
          have ba2 : (k : Int) - 1 < (d.size : Int) := by omega
          have ra2 : IntKind.i64.wrap ((k : Int) - 1) = (k : Int) - 1 := by rw [IntKind.wrap_i64]; omega)
          (
          have S2 : Aside (SWK enc 34 w0 blk off (swp dk (k) (k - 1)) ((wr.drew.setCells blk (off + (k) * 34) (enc dk[k - 1]!)).setCells blk (off + (k - 1) * 34) (enc dk[k]!))) := S3.out.swapped R (k) (k - 1) (by omega) (by omega)
          have l44a := S3.out.ld1 R (by omega) Tryz.prog (k) (by omega)
          have l44b := S3.out.ld1 R (by omega) Tryz.prog (k - 1) (by omega)
          have s44a := S3.out.st1 R (by omega) Tryz.prog (k) (by omega) dk[k - 1]!
          have s44b := S3.out.st2 R (by omega) Tryz.prog (k) (k - 1) (by omega) (by omega) dk[k - 1]! dk[k]!
          have n44a : (enc dk[k]!).length = kn := by rw [HK.out]; exact R.hk _
          have n44b : (enc dk[k - 1]!).length = kn := by rw [HK.out]; exact R.hk _
          generalize enc dk[k]! = cI44 at S2 l44a s44b n44a
          generalize enc dk[k - 1]! = cJ44 at S2 l44b s44a s44b n44b
          have l1 : Sem.run Tryz.prog (loadCellsFrom ⟨blk, off + (k) * 34, none⟩ 0 kn #[]) wr.drew = .ok cI44.toArray wr.drew := by rw [HK.out]; exact l44a
          have l2 : Sem.run Tryz.prog (loadCellsFrom ⟨blk, off + (k - 1) * 34, none⟩ 0 kn #[]) wr.drew = .ok cJ44.toArray wr.drew := by rw [HK.out]; exact l44b
          clear S3 l44a l44b
          go_wp2_with fail
          go_big_region_o
          clear l1 l2 s44a s44b
          generalize (wr.drew.setCells blk (off + (k) * 34) cJ44).setCells blk (off + (k - 1) * 34) cI44 = w2 at S2 ⊢)
          go_wp2
          go_roundg (k - 1 - i)
          case measure => omega
          case rel =>
            obtain ⟨k', rfl⟩ : ∃ k', k = k' + 1 := ⟨k - 1, by omega⟩
            exact ⟨k', swp dk (k' + 1) k', by go_num, by omega, by omega, Nat.le_refl _, by rw [size_swp]; exact hds, S2, Lib.hid (permIn_trans _ _ _ _ _ HP.out (swp_permIn dk a (m + 1) (k' + 1) k' (by omega) (by omega) (by omega) (by omega) (by omega))), Lib.hid (src_down d dk m k' (by omega) (by omega) HW.out)⟩
        · have hltz : ¬ ((i : Int) < (k : Int)) := by omega
          go_wp2
          obtain rfl : i = k := by omega
          (try simp only [Exit.inBlock, Exit.then])
          refine bodyPost_ret (results_none rfl _ _ _) rfl ?_
          exact ⟨rfl, dk, S3.out, HP.out, HT.out.last (i := i) hai hjb HI.out.1 HI.out.2 HW.out⟩
end
end Go.Proofs.YtkaeoflgnnlbeaaGreatDoor

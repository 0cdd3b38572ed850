/- What is proved: what the walks of this seat need of layers below, merged out of the texts Shk (of each just what is needed). Conditions: each theorem names its own. -/
import Derived.Test.YtgbhdjncccmabaaGreatDoorDf
import Derived.Test.YtgbhdjncccmabaaGreatDoorBpc
import Derived.Test.YtgbhdjncccmabaaGreatDoorBqa
set_option maxRecDepth 100000
/- What is proved: the document's own block: what a state becomes by 64 bytes. Conditions: 64 bytes, where they lie. -/
namespace Go.Proofs.YtgbhdjncccmabaaGreatDoor
open Go.RowKit
set_option linter.unusedVariables false
theorem info_u32 : (Tryz.prog.info? 41).map (fun i => (i.zero, i.size, i.bytes)) = some (some (.int .u32 0), 1, 4) := by kernel_rfl
theorem src_num (w : World) (c : Int) : Src Tryz.prog 1 74 (.slice (some ⟨w.heap.size, 0, none⟩) 1 1) 1 [.int .u32 c] (w.alloc (.cells #[.int .u32 c] 41)) :=
  Src.ofSlice _ Tryz.underlying74 ⟨w.heap.size, 0, none⟩ 1 1 [.int .u32 c] rfl (by intro j u hj; match j, hj with | 0, hj => simp at hj; subst hj; simp [Addr.add]) (by intro u hu; simp at hu; subst hu; rfl)
/-- What stands at the head of a round: the numbers so far. -/
def QwRel (w : World) (bs : List UInt8) (t : Nat) (v : Value) (wr : World) : Prop := wr.ownsRow w.heap.size 41 1 v t ((ws bs t).map num) ∧ Fr (fun _ => False) w wr
theorem QwRel.next {w wr w' : World} {bs : List UInt8} {t : Nat} {v v' : Value} (h : QwRel w bs t v wr) {x : Int} {o : Obj} (hx : x = if t < 16 then be4 bs t else nextW (ws bs t) t)
    (ho : w'.ownsRow w.heap.size 41 1 v' (t + 1) ((ws bs t).map num ++ [.int .u32 x])) (hg : (wr.drew.alloc o).grownBy w' v.ownBlock) : QwRel w bs (t + 1) v' w' := by
  subst hx
  refine ⟨by rw [ws, List.map_append]; exact ho, (h.2.drew.alloc o).grown hg (fun k hk hlt => ?_)⟩
  have := (World.ownsRow.lt h.1 k hk).1
  omega
theorem QwRel.drew {w wr : World} {bs : List UInt8} {t : Nat} {v : Value} (h : QwRel w bs t v wr) (n : Nat) : QwRel w bs t v (wr.drewN n) := ⟨own_fr h.1 ((Fr.refl (fun _ => False) wr).drewN n) (fun _ _ e => e), h.2.drewN n⟩
theorem QwRel.cell {w wr : World} {bs : List UInt8} {t g c : Nat} (h : QwRel w bs t (.slice (some ⟨g, 0, none⟩) t c) wr) (i : Nat) (hi : i < t) : wr.cell? ⟨g, i, none⟩ = some (.int .u32 ((ws bs t).getD i 0)) := by
  rw [World.ownsRow.cellAt h.1 i (by omega), List.getElem?_map, List.getD_eq_getElem?_getD]
  rw [List.getElem?_eq_getElem (by rw [ws_length]; exact hi)]
  rfl
theorem QwRel.shape {w wr : World} {bs : List UInt8} {t : Nat} {v : Value} (h : QwRel w bs t v wr) (ht : 0 < t) : ∃ g c, v = .slice (some ⟨g, 0, none⟩) t c ∧ t ≤ c ∧ w.heap.size ≤ g := by
  rcases own_shape h.1 with ⟨_, h0, _⟩ | ⟨g, cap, hv, h1, _, h3⟩
  · omega
  · exact ⟨g, cap, hv, h1, h3⟩
set_option maxRecDepth 20000 in
set_option maxHeartbeats 3200000 in
theorem QBlock_any (s : S8) (bk off cap : Nat) (bs : List UInt8) (w : World) (hlen : bs.length = 64) (hl : ∀ i, i < 64 → w.cell? ⟨bk, off + i, none⟩ = some (.int .u8 (byteI bs i))) :
    Calls Tryz.prog 54 #[.agg s.vals, .slice (some ⟨bk, off, none⟩) 64 cap] w fun e w' => e = .returned (.agg (blk s bs).vals) ∧ Below w.heap.size w w' := by
  obtain ⟨w1, hw1⟩ : ∃ w1, ((w.alloc (.cells s.vals 111)).alloc (.cells S8.zero.vals 111)) = w1 := ⟨_, rfl⟩
  have hF : Fr (fun _ => False) w w1 := by subst hw1; exact ((Fr.refl _ w).alloc _).alloc _
  have hW : Whole w1 (w.heap.size + 1) 111 S8.zero.vals := by
    subst hw1
    have h := Whole.new (w.alloc (.cells s.vals 111)) 111 S8.zero.vals
    have e : (w.alloc (.cells s.vals 111)).heap.size = w.heap.size + 1 := by simp
    rwa [e] at h
  have hS : Whole w1 w.heap.size 111 s.vals := by
    subst hw1
    exact (Whole.new w 111 s.vals).fr ((Fr.refl (fun _ => False) _).alloc _) (fun e => e)
  have hs1 : w1.heap.size = w.heap.size + 2 := by subst hw1; simp
  have hC := Whole.new w1 41 (padNums kt 64)
  obtain ⟨w2, hw2⟩ : ∃ w2, w1.alloc (.cells (padNums kt 64) 41) = w2 := ⟨_, rfl⟩
  rw [hw2] at hC
  have hF2 : Fr (fun _ => False) w1 w2 := by subst hw2; exact (Fr.refl _ w1).alloc _
  have HB := Lib.hid (fun i (hi : i < 64) => hF2.cell (hF.cell (hl i hi) (fun e => e)) (fun e => e))
  have HS := Lib.hid (hS.fr hF2 (fun e => e))
  have HW := Lib.hid (hW.fr hF2 (fun e => e))
  have HF := Lib.hid (hF.trans hF2 (fun i hi e => e))
  have HC := Lib.hid hC
  have HS1 := Lib.hid hs1
  have HW2 := Lib.hid hw2
  clear hl hS hW hF hF2 hC hs1 hw2
  unfold S8.zero S8.vals at hw1
  obtain ⟨sv, hsv⟩ : ∃ sv, s.vals = sv := ⟨_, rfl⟩
  have hsv2 := hsv
  unfold S8.vals at hsv2
  rw [hsv2] at hw1
  rw [hsv]
  clear hsv2
  obtain ⟨iu, hiu, hz0, hz1, hz2⟩ := info_partsS info_u32
  go_enter Tryz.func54, Tryz.ntmps54
  go_wp2_with (go_at_call 81; refine (QConst_any _).mono ?_; rintro e w2' ⟨rfl, e2⟩; rw [HW2.out] at e2; subst w2')
  clear hw1
  go_loopw [6, 7] (fun v i wr => ∃ t : Nat, t ≤ 16 ∧ i = .int .i64 t ∧ QwRel w2 bs t v wr) (fun _ i _ => 16 - (intOf i).toNat)
  case atStart => exact ⟨0, by omega, rfl, World.ownsRow_nil _ _ _ _, Fr.refl _ _⟩
  case round =>
    obtain ⟨t, ht, rfl, hr⟩ := hrel
    by_cases hlt : t < 16
    · have c0 := hr.2.cell (HB.out (4 * t) (by omega)) (fun e => e)
      have c1 := hr.2.cell (HB.out (4 * t + 1) (by omega)) (fun e => e)
      have c2 := hr.2.cell (HB.out (4 * t + 2) (by omega)) (fun e => e)
      have c3 := hr.2.cell (HB.out (4 * t + 3) (by omega)) (fun e => e)
      obtain ⟨g00, g01⟩ := byteI_bound bs (4 * t)
      obtain ⟨g10, g11⟩ := byteI_bound bs (4 * t + 1)
      obtain ⟨g20, g21⟩ := byteI_bound bs (4 * t + 2)
      obtain ⟨g30, g31⟩ := byteI_bound bs (4 * t + 3)
      obtain ⟨b0, e0⟩ : ∃ x, byteI bs (4 * t) = x := ⟨_, rfl⟩
      obtain ⟨b1, e1⟩ : ∃ x, byteI bs (4 * t + 1) = x := ⟨_, rfl⟩
      obtain ⟨b2, e2⟩ : ∃ x, byteI bs (4 * t + 2) = x := ⟨_, rfl⟩
      obtain ⟨b3, e3⟩ : ∃ x, byteI bs (4 * t + 3) = x := ⟨_, rfl⟩
      have HE := Lib.hid (show be4 bs t = (b0 * 256 + b1) * 65536 + b2 * 256 + b3 by unfold be4; rw [e0, e1, e2, e3])
      have HK := Lib.hid (show (w2.cell? ⟨bk, off + 4 * t, none⟩ = some (.int .u8 b0) ∧ w2.cell? ⟨bk, off + (4 * t + 1), none⟩ = some (.int .u8 b1) ∧ w2.cell? ⟨bk, off + (4 * t + 2), none⟩ = some (.int .u8 b2) ∧ w2.cell? ⟨bk, off + (4 * t + 3), none⟩ = some (.int .u8 b3)) by
        rw [← e0, ← e1, ← e2, ← e3]
        exact ⟨HB.out (4 * t) (by omega), HB.out (4 * t + 1) (by omega), HB.out (4 * t + 2) (by omega), HB.out (4 * t + 3) (by omega)⟩)
      rw [e0] at c0 g00 g01
      rw [e1] at c1 g10 g11
      rw [e2] at c2 g20 g21
      rw [e3] at c3 g30 g31
      clear e0 e1 e2 e3
      obtain ⟨T, hT⟩ : ∃ T : Int, 4 * (t : Int) = T := ⟨_, rfl⟩
      have a0 : IntKind.i64.wrap (4 * (t : Int)) = T := by simp only [IntKind.wrap_i64]; omega
      have a1 : IntKind.i64.wrap (T + 1) = T + 1 := by simp only [IntKind.wrap_i64]; omega
      have a2 : IntKind.i64.wrap (T + 2) = T + 2 := by simp only [IntKind.wrap_i64]; omega
      have a3 : IntKind.i64.wrap (T + 3) = T + 3 := by simp only [IntKind.wrap_i64]; omega
      have n0 : T.toNat = 4 * t := by omega
      have n1 : (T + 1).toNat = 4 * t + 1 := by omega
      have n2 : (T + 2).toNat = 4 * t + 2 := by omega
      have n3 : (T + 3).toNat = 4 * t + 3 := by omega
      have l0 : 0 ≤ T := by omega
      have l1 : 0 ≤ T + 1 := by omega
      have l2 : 0 ≤ T + 2 := by omega
      have l3 : 0 ≤ T + 3 := by omega
      have u0 : T < 64 := by omega
      have u1 : T + 1 < 64 := by omega
      have u2 : T + 2 < 64 := by omega
      have u3 : T + 3 < 64 := by omega
      obtain ⟨A6, cc6, hv6, -, -⟩ := own_slice hr.1
      subst hv6
      have HR := Lib.hid hr
      clear hr hT
      go_wp2_with fail
      go_region_held3 (fun w' => w'.cell? ⟨bk, off + 4 * t, none⟩ = some (.int .u8 b0) ∧ w'.cell? ⟨bk, off + (4 * t + 1), none⟩ = some (.int .u8 b1) ∧ w'.cell? ⟨bk, off + (4 * t + 2), none⟩ = some (.int .u8 b2) ∧ w'.cell? ⟨bk, off + (4 * t + 3), none⟩ = some (.int .u8 b3)) (first | exact hk1 | go_keep)
        ((refine step_append_row _ (by rfl) (.tmp 29) (.tmp 63) 74 74 (by rfl) w2.heap.size 41 iu (.int .u32 0) 1 4 Tryz.underlying74 hiu hz0 hz1 hz2 (by rfl) _ t _ (by rfl) (own_fr (S := fun _ => False) HR.out.1 ((Fr.refl _ wr).drew.alloc _) (fun _ _ e => e)) _ 1 [.int .u32 _] (by rfl) (src_num wr.drew _) (by unfold maxLen; omega) (by omega) (by have := HR.out.2.size; simp; omega) ?_
          intro v1 w3 o1 g1 at1
          have F1 : Fr (fun _ => False) w2 w3 := (HR.out.2.drew.alloc _).grown g1 (fun k hk hlt => absurd hlt (by have := (World.ownsRow.lt HR.out.1 k hk).1; omega))
          have hk1 := (And.intro (F1.cell HK.out.1 (fun e => e)) (And.intro (F1.cell HK.out.2.1 (fun e => e)) (And.intro (F1.cell HK.out.2.2.1 (fun e => e)) (F1.cell HK.out.2.2.2 (fun e => e)))))))
      have hq := QwRel.next HR.out (by rw [if_pos hlt, HE.out]; simp only [IntKind.wrap_u32]; omega) o1 g1
      have HQ := Lib.hid hq
      clear hq o1 g1 at1 hk1 F1
      go_wp2_with fail
      go_roundw
      case rel => exact ⟨t + 1, by omega, by go_num, HQ.out⟩
      case measure => simp [intOf]; omega
    · obtain rfl : t = 16 := by omega
      obtain ⟨g6, c6, rfl, -, -⟩ := hr.shape (by decide)
      have HR := Lib.hid hr
      clear hr
      have e16 : ((16 : Nat) : Int) = 16 := rfl
      go_wp2_with fail
      try simp only [e16]
      clear e16
      go_loopw [6, 8] (fun v i wr => ∃ t : Nat, 16 ≤ t ∧ t ≤ 64 ∧ i = .int .i64 t ∧ QwRel w2 bs t v wr) (fun _ i _ => 64 - (intOf i).toNat)
      case atStart => exact ⟨16, by omega, by omega, rfl, HR.out⟩
      case round =>
        clear HR ht hlt
        obtain ⟨t, ht0, ht, rfl, hr⟩ := hrel
        obtain ⟨g6, c6, rfl, hc6, hg6⟩ := hr.shape (by omega)
        by_cases hlt : t < 64
        · have c1 := hr.cell (t - 15) (by omega)
          have c2 := hr.cell (t - 2) (by omega)
          have c3 := hr.cell (t - 16) (by omega)
          have c4 := hr.cell (t - 7) (by omega)
          obtain ⟨x15, e1⟩ : ∃ x, (ws bs t).getD (t - 15) 0 = x := ⟨_, rfl⟩
          obtain ⟨x2, e2⟩ : ∃ x, (ws bs t).getD (t - 2) 0 = x := ⟨_, rfl⟩
          obtain ⟨x16, e3⟩ : ∃ x, (ws bs t).getD (t - 16) 0 = x := ⟨_, rfl⟩
          obtain ⟨x7, e4⟩ : ∃ x, (ws bs t).getD (t - 7) 0 = x := ⟨_, rfl⟩
          have HE := Lib.hid (show nextW (ws bs t) t = (x16 + sig0 x15 + x7 + sig1 x2) % 4294967296 by unfold nextW; rw [e1, e2, e3, e4])
          rw [e1] at c1
          rw [e2] at c2
          rw [e3] at c3
          rw [e4] at c4
          clear e1 e2 e3 e4
          have HR := Lib.hid hr
          clear hr
          have a16 : IntKind.i64.wrap ((t : Int) - 16) = (t : Int) - 16 := by simp only [IntKind.wrap_i64]; omega
          have a7 : IntKind.i64.wrap ((t : Int) - 7) = (t : Int) - 7 := by simp only [IntKind.wrap_i64]; omega
          have n16 : ((t : Int) - 16).toNat = t - 16 := by omega
          have n7 : ((t : Int) - 7).toNat = t - 7 := by omega
          have l16 : (16 : Int) ≤ (t : Int) := by omega
          have l7 : (7 : Int) ≤ (t : Int) := by omega
          have u16 : (t : Int) - 16 < t := by omega
          have u7 : (t : Int) - 7 < t := by omega
          go_wp2_with (go_at_call 82; refine (Qright_i _ _ (by decide) (by decide) _).mono ?_; rintro e w' ⟨rfl, rfl⟩)
          go_region_law
            ((refine step_append_row _ (by rfl) (.tmp 95) (.tmp 111) 74 74 (by rfl) w2.heap.size 41 iu (.int .u32 0) 1 4 Tryz.underlying74 hiu hz0 hz1 hz2 (by rfl) _ t _ (by rfl) (own_fr (S := fun _ => False) HR.out.1 ((Fr.refl _ wr).drew.alloc _) (fun _ _ e => e)) _ 1 [.int .u32 _] (by rfl) (src_num wr.drew _) (by unfold maxLen; omega) (by omega) (by have := HR.out.2.size; simp; omega) ?_
              intro v1 w3 o1 g1 at1))
          all_goals
            have hq := QwRel.next HR.out (by rw [if_neg (by omega), HE.out]; show _ = _; simp only [IntKind.wrap_u32, sig0, sig1]; omega) o1 g1
            have HQ := Lib.hid hq
            clear hq o1 g1 at1
            go_wp2_with fail
            go_roundw
            case rel => exact ⟨t + 1, by omega, by omega, by go_num, HQ.out⟩
            case measure => simp [intOf]; omega
        · obtain rfl : t = 64 := by omega
          obtain ⟨s0, s1, s2, s3, s4, s5, s6, s7⟩ := S8.cells (HS.out.fr hr.2 (fun e => e))
          have HR := Lib.hid hr
          clear hr
          have e64 : ((64 : Nat) : Int) = 64 := rfl
          go_wp2_with fail
          try simp only [e64]
          go_quiet (fail)
          go_wp2_with fail
          clear s0 s1 s2 s3 s4 s5 s6 s7
          go_loopw [13, 14, 15, 16, 17, 18, 19, 20, 21] (fun ra rb rc rd re rf rg rh i wr2 => ∃ (t : Nat) (q : S8), t ≤ 64 ∧ rnds s (ws bs 64) t = q ∧ i = .int .i64 t ∧ ra = .int .u32 q.a ∧ rb = .int .u32 q.b ∧ rc = .int .u32 q.c ∧ rd = .int .u32 q.d ∧ re = .int .u32 q.e ∧ rf = .int .u32 q.f ∧ rg = .int .u32 q.g ∧ rh = .int .u32 q.h ∧ QwRel w2 bs 64 (.slice (some ⟨g6, 0, none⟩) 64 c6) wr2) (fun _ _ _ _ _ _ _ _ i _ => 64 - (intOf i).toNat)
          case atStart => exact ⟨0, s, by omega, rfl, rfl, rfl, rfl, rfl, rfl, rfl, rfl, rfl, rfl, HR.out.drew _⟩
          case round =>
            clear HR
            obtain ⟨t, q, ht, hq, rfl, rfl, rfl, rfl, rfl, rfl, rfl, rfl, rfl, hr⟩ := hrel
            have HR := Lib.hid hr
            clear hr
            obtain ⟨qa, qb, qc, qd, qe, qf, qg, qh⟩ := q
            by_cases hlt : t < 64
            · have c1 : wr.cell? ⟨g6, t, none⟩ = some (.int .u32 ((ws bs 64).getD t 0)) := HR.out.cell t hlt
              have c2 : wr.cell? ⟨w1.heap.size, t, none⟩ = some (.int .u32 (kt.getD t 0)) := by
                have h := Whole.fr HC.out (HR.out.2) (fun e => e)
                rw [h.cell, padNums_get _ _ _ (by exact hlt)]
                rfl
              obtain ⟨kk, hkk⟩ : ∃ k, kt.getD t 0 = k := ⟨_, rfl⟩
              obtain ⟨ww, hww⟩ : ∃ k, (ws bs 64).getD t 0 = k := ⟨_, rfl⟩
              rw [hkk] at c2
              rw [hww] at c1
              have HN := Lib.hid (show rnds s (ws bs 64) (t + 1) = rnd ⟨qa, qb, qc, qd, qe, qf, qg, qh⟩ kk ww by rw [← hq, ← hkk, ← hww]; rfl)
              clear hq hkk hww
              go_wp2_with fail
              go_quiet (first
                | (go_at_call 82; exact Calls.quiet_of_same (Qright_q _ _ (by decide) (by decide) _)))
              go_wp2_with (go_at_call 82; refine (Qright_i _ _ (by decide) (by decide) _).mono ?_; rintro e w' ⟨rfl, rfl⟩)
              go_roundw
              case rel =>
                exact ⟨t + 1, _, by omega, HN.out, by go_num, rfl, rfl, rfl, rfl, rfl, rfl, rfl, rfl, HR.out.drew _⟩
              case measure => simp [intOf]; omega
            · obtain rfl : t = 64 := by omega
              have HN := Lib.hid hq
              clear hq
              have hF3 := HR.out.2
              obtain ⟨s0, s1, s2, s3, s4, s5, s6, s7⟩ := S8.cells (HS.out.fr hF3 (fun e => e))
              have hw3 := HW.out.fr hF3 (fun e => e)
              go_wp2_with (refine wpList_store_at rfl 111 _ _ rfl (w.heap.size + 1) 0 111 _ (s.add ⟨qa, qb, qc, qd, qe, qf, qg, qh⟩).vals rfl rfl hw3 (show 0 + 8 ≤ 8 from Nat.le_refl 8) size8 (S8.one _) ?_; intro w5 hw5 hf5)
              replace hw5 := S8.laid hw5
              have hb : blk s bs = s.add ⟨qa, qb, qc, qd, qe, qf, qg, qh⟩ := by unfold blk; rw [HN.out]
              rw [hb]
              refine bodyPost_ret (v := .agg (s.add ⟨qa, qb, qc, qd, qe, qf, qg, qh⟩).vals) (results_cell_row (p := 4) rfl _ _ _ _ _ _ _ rfl hw5 Tryz.underlying111 rfl size8) rfl ?_
              exact ⟨rfl, ((HF.out.trans hF3 (fun i hi e => e)).trans hf5 (fun i hi e => by omega)).below (fun _ _ e => e)⟩
end Go.Proofs.YtgbhdjncccmabaaGreatDoor

/- What is proved: what the walks of this seat need of layers below, merged out of the texts Shm (of each just what is needed). Conditions: each theorem names its own. -/
import Derived.Test.YtgbhdjncccmabaaGreatDoorBp
set_option maxRecDepth 100000
/- What is proved: what the program's 64 turns (mixed) make of a state and a block's numbers. Conditions: the table of constants holds what start-up lays. -/
namespace Go.Proofs.YtgbhdjncccmabaaGreatDoor
open Go.RowKit
set_option linter.unusedVariables false
/-- The constants. -/
def kt : List Int := [1116352408, 1899447441, 3049323471, 3921009573, 961987163, 1508970993, 2453635748, 2870763221, 3624381080, 310598401, 607225278, 1426881987, 1925078388, 2162078206, 2614888103, 3248222580, 3835390401, 4022224774, 264347078, 604807628, 770255983, 1249150122, 1555081692, 1996064986, 2554220882, 2821834349, 2952996808, 3210313671, 3336571891, 3584528711, 113926993, 338241895, 666307205, 773529912, 1294757372, 1396182291, 1695183700, 1986661051, 2177026350, 2456956037, 2730485921, 2820302411, 3259730800, 3345764771, 3516065817, 3600352804, 4094571909, 275423344, 430227734, 506948616, 659060556, 883997877, 958139571, 1322822218, 1537002063, 1747873779, 1955562222, 2024104815, 2227730452, 2361852424, 2428436474, 2756734187, 3204031479, 3329325298]
/-- The table lies in the program's variable. -/
def Tab (w : World) : Prop := ∀ i, i < 64 → w.cell? ⟨1, i, none⟩ = some (.int .u32 (kt.getD i 0))
theorem Tab.lt {w : World} (h : Tab w) : 1 < w.heap.size := World.block_lt_of_cell? w ⟨1, 0, none⟩ (h 0 (by decide))
theorem Tab.fr {S : Nat → Prop} {w w' : World} (h : Tab w) (f : Fr S w w') (hn : ¬ S 1) : Tab w' := fun i hi => f.cell (h i hi) hn
/-- A state's eight numbers. -/
structure S8 where
  a : Int
  b : Int
  c : Int
  d : Int
  e : Int
  f : Int
  g : Int
  h : Int
def S8.vals (s : S8) : Array Value := #[.int .u32 s.a, .int .u32 s.b, .int .u32 s.c, .int .u32 s.d, .int .u32 s.e, .int .u32 s.f, .int .u32 s.g, .int .u32 s.h]
def chF (e f g : Int) : Int := bits .xor .u32 (bits .and .u32 e f) (bits .and .u32 (bits .xor .u32 4294967295 e) g)
def maF (a b c : Int) : Int := bits .xor .u32 (bits .xor .u32 (bits .and .u32 a b) (bits .and .u32 a c)) (bits .and .u32 b c)
def t1F (s : S8) (k w : Int) : Int := (s.h + rot3 s.e 6 11 25 + chF s.e s.f s.g + k + w) % 4294967296
def t2F (s : S8) : Int := (rot3 s.a 2 13 22 + maF s.a s.b s.c) % 4294967296
/-- One turn. -/
def rnd (s : S8) (k w : Int) : S8 :=
  ⟨(t1F s k w + t2F s) % 4294967296, s.a, s.b, s.c, (s.d + t1F s k w) % 4294967296, s.e, s.f, s.g⟩
/-- t turns. -/
def rnds (s : S8) (W : List Int) : Nat → S8
  | 0 => s
  | t + 1 => rnd (rnds s W t) (kt.getD t 0) (W.getD t 0)
def MxRel (w : World) (W : List Int) (wr : World) : Prop := Whole wr (w.heap.size + 1) 160 (padNums W 64) ∧ Whole wr (w.heap.size + 1 + 1) 111 (S8.vals ⟨0, 0, 0, 0, 0, 0, 0, 0⟩) ∧ Fr (fun _ => False) w wr
theorem MxRel.drew {w wr : World} {W : List Int} (h : MxRel w W wr) (n : Nat) : MxRel w W (wr.drewN n) := ⟨h.1, h.2.1, h.2.2.drewN n⟩
theorem S8.one (s : S8) : s.vals.all (·.oneCell') = true := by simp [S8.vals, Value.oneCell']
theorem S8.laid {w : World} {g : Nat} {t : TypeId} {s q : S8} (h : Whole w g t (laidAt s.vals 0 q.vals)) : Whole w g t q.vals := by
  rwa [laidAt_all s.vals q.vals (by rfl)] at h
theorem S8.size (s : S8) : s.vals.size = 8 := rfl
set_option maxHeartbeats 1600000 in
theorem Smixed_any (s : S8) (W : List Int) (w : World) (hlen : W.length = 64) (ht : Tab w) :
    Calls Tryz.prog 102 #[.agg s.vals, .agg (padNums W 64)] w fun e w' => e = .returned (.agg (rnds s W 64).vals) ∧ Below w.heap.size w w' := by
  obtain ⟨w1, hw1⟩ : ∃ w1, (((w.alloc (.cells s.vals 111)).alloc (.cells (padNums W 64) 160)).alloc (.cells (S8.vals ⟨0, 0, 0, 0, 0, 0, 0, 0⟩) 111)) = w1 := ⟨_, rfl⟩
  have hF : Fr (fun _ => False) w w1 := by subst hw1; exact (((Fr.refl _ w).alloc _).alloc _).alloc _
  have hS : Whole w1 w.heap.size 111 s.vals := by
    subst hw1
    exact ((Whole.new w 111 s.vals).fr ((Fr.refl (fun _ => False) _).alloc _) (fun e => e)).fr ((Fr.refl (fun _ => False) _).alloc _) (fun e => e)
  have hR : MxRel w W w1 := by
    refine ⟨?_, ?_, hF⟩
    · subst hw1
      have h := Whole.new (w.alloc (.cells s.vals 111)) 160 (padNums W 64)
      have e : (w.alloc (.cells s.vals 111)).heap.size = w.heap.size + 1 := by simp
      rw [e] at h
      exact h.fr ((Fr.refl (fun _ => False) _).alloc _) (fun e => e)
    · subst hw1
      have h := Whole.new ((w.alloc (.cells s.vals 111)).alloc (.cells (padNums W 64) 160)) 111 (S8.vals ⟨0, 0, 0, 0, 0, 0, 0, 0⟩)
      have e : ((w.alloc (.cells s.vals 111)).alloc (.cells (padNums W 64) 160)).heap.size = w.heap.size + 1 + 1 := by simp
      rw [e] at h
      exact h
  have s0 := hS.cell 0
  have s1 := hS.cell 1
  have s2 := hS.cell 2
  have s3 := hS.cell 3
  have s4 := hS.cell 4
  have s5 := hS.cell 5
  have s6 := hS.cell 6
  have s7 := hS.cell 7
  simp [S8.vals] at s0 s1 s2 s3 s4 s5 s6 s7
  clear hS
  unfold S8.vals at hw1
  obtain ⟨cw, hcw⟩ : ∃ cw, padNums W 64 = cw := ⟨_, rfl⟩
  rw [hcw] at hw1 ⊢
  obtain ⟨sv, hsv⟩ : ∃ sv, s.vals = sv := ⟨_, rfl⟩
  have hsv2 := hsv
  unfold S8.vals at hsv2
  rw [hsv2] at hw1
  rw [hsv]
  clear hsv2
  have HT := Lib.hid ht
  clear ht
  go_enter Tryz.func102, Tryz.ntmps102
  go_wp2
  clear hw1
  go_quiet (fail)
  go_wp2_with fail
  go_quiet (fail)
  go_wp2_with fail
  clear s0 s1 s2 s3 s4 s5 s6 s7 hF
  go_loopw [5, 6, 7, 8, 9, 10, 11, 12, 32] (fun ra rb rc rd re rf rg rh i wr => ∃ (t : Nat) (q : S8), t ≤ 64 ∧ rnds s W t = q ∧ i = .int .i64 t ∧ ra = .int .u32 q.a ∧ rb = .int .u32 q.b ∧ rc = .int .u32 q.c ∧ rd = .int .u32 q.d ∧ re = .int .u32 q.e ∧ rf = .int .u32 q.f ∧ rg = .int .u32 q.g ∧ rh = .int .u32 q.h ∧ MxRel w W wr) (fun _ _ _ _ _ _ _ _ i _ => 64 - (intOf i).toNat)
  case atStart => exact ⟨0, s, by omega, rfl, rfl, rfl, rfl, rfl, rfl, rfl, rfl, rfl, rfl, (hR.drew _).drew _⟩
  case round =>
    clear hR
    obtain ⟨t, q, ht, hq, rfl, rfl, rfl, rfl, rfl, rfl, rfl, rfl, rfl, hr⟩ := hrel
    by_cases hlt : t < 64
    · have c1 : wr.cell? ⟨w.heap.size + 1, t, none⟩ = some (.int .u32 (W.getD t 0)) := by
        rw [hr.1.cell, padNums_get _ _ _ (by omega)]
        rfl
      have c2 := (HT.out.fr hr.2.2 (fun e => e)) t hlt
      obtain ⟨qa, qb, qc, qd, qe, qf, qg, qh⟩ := q
      obtain ⟨kk, hkk⟩ : ∃ k, kt.getD t 0 = k := ⟨_, rfl⟩
      obtain ⟨ww, hww⟩ : ∃ k, W.getD t 0 = k := ⟨_, rfl⟩
      rw [hkk] at c2
      rw [hww] at c1
      have HN := Lib.hid (show rnds s W (t + 1) = rnd ⟨qa, qb, qc, qd, qe, qf, qg, qh⟩ kk ww by rw [← hq, ← hkk, ← hww]; rfl)
      have HR := Lib.hid hr
      clear hr hq hkk hww
      go_wp2_with fail
      go_quiet (first
        | (go_at_call 109; exact Calls.quiet_of_same ((Sturned_any qe 6 11 25 (by decide) (by decide) (by decide) _).mono fun _ _ hh => ⟨hh.1, hh.2.symm⟩)))
      go_wp2_with (go_at_call 109; refine (Sturned_any qa 2 13 22 (by decide) (by decide) (by decide) _).mono ?_; rintro e w' ⟨rfl, rfl⟩)
      go_roundw
      case rel =>
        exact ⟨t + 1, _, by omega, HN.out, by go_num, rfl, rfl, rfl, rfl, rfl, rfl, rfl, rfl, HR.out.drew _⟩
      case measure => simp [intOf]; omega
    · obtain rfl : t = 64 := by omega
      obtain ⟨qa, qb, qc, qd, qe, qf, qg, qh⟩ := q
      have HQ := Lib.hid hq
      clear hq
      go_wp2_with (refine wpList_store_at rfl 111 _ _ rfl (w.heap.size + 1 + 1) 0 111 _ (S8.vals ⟨qa, qb, qc, qd, qe, qf, qg, qh⟩) rfl rfl hr.2.1 (show 0 + 8 ≤ 8 from Nat.le_refl 8) (show (Tryz.prog.info? 111).map (·.size) = some 8 by kernel_rfl) (S8.one _) ?_; intro w2 hw2 hf2)
      replace hw2 := S8.laid hw2
      rw [HQ.out]
      refine bodyPost_ret (v := .agg (S8.vals ⟨qa, qb, qc, qd, qe, qf, qg, qh⟩)) (results_cell_row (p := 4) rfl _ _ _ _ _ _ _ rfl hw2 Tryz.underlying111 rfl (show (Tryz.prog.info? 111).map (·.size) = some 8 by kernel_rfl)) rfl ?_
      exact ⟨rfl, (hr.2.2.trans hf2 (fun i hi e => by omega)).below (fun _ _ e => e)⟩
end Go.Proofs.YtgbhdjncccmabaaGreatDoor

/- What is proved: Open by the program: the index that bytes are, or the error. Conditions: at most 100000 bytes, which are there; the table of the sums lies as its text lays it. -/
import Derived.Test.YtgbhdjncccmabaaGreatDoorIxo
namespace Go.Proofs.YtgbhdjncccmabaaGreatDoor
open Go.RowKit
set_option linter.unusedVariables false

theorem arr_at (a : Addr) (c : Nat) (w : World) : (Instr.arrayAt 24 (.slice (some a) 32 c)).run Tryz.prog w = .ok (.pointer (some a)) w := by kernel_rfl
set_option maxRecDepth 100000 in
theorem eq_idBm (a b : List UInt8) (ha : a.length = 32) (hb : b.length = 32) (m : Nat) (hm : 2 ≤ m) (w : World) : (Op.equalIn m 24 (.agg (bytesV a).toArray) (.agg (bytesV b).toArray)).run Tryz.prog w = .ok (decide (a = b)) w := by
  obtain ⟨d, rfl⟩ : ∃ d, m = d + 2 := ⟨m - 2, by omega⟩
  have e : ∀ l : List UInt8, bytesV l = (l.map fun b => ((b.toNat : Nat) : Int)).map (Value.int .u8) := fun l => by rw [bytesV, List.map_map]; rfl
  have h := run_equal_ints (P := Tryz.prog) w d 24 5 32 .u8 Tryz.underlying24 Tryz.underlying5 (fun _ => by kernel_rfl) (a.map fun b => ((b.toNat : Nat) : Int)) (b.map fun b => ((b.toNat : Nat) : Int)) (by simpa using ha) (by simpa using hb)
  rw [← e, ← e] at h
  rw [h]
  congr 1
  rw [decide_eq_decide]
  refine ⟨fun h => ?_, fun h => by rw [h]⟩
  exact (List.map_inj_right (fun x y (hxy : ((x.toNat : Nat) : Int) = y.toNat) => UInt8.toNat_inj.1 (by omega))).1 h
theorem eq_idB (a b : List UInt8) (ha : a.length = 32) (hb : b.length = 32) (w : World) : (Op.equalIn 10000 24 (.agg (bytesV a).toArray) (.agg (bytesV b).toArray)).run Tryz.prog w = .ok (decide (a = b)) w := eq_idBm a b ha hb 10000 (by omega) w
def sameF (f g : Nat → Nat) : Bool := decide ((List.range 256).map f = (List.range 256).map g)
theorem sameF_iff (f g : Nat → Nat) : sameF f g = true ↔ ∀ c, c < 256 → f c = g c := by
  unfold sameF
  rw [decide_eq_true_iff]
  constructor
  · intro h c hc
    have := congrArg (fun l => l[c]?) h
    simpa [hc] using this
  · intro h
    exact List.map_congr_left (fun c hc => h c (List.mem_range.1 hc))
set_option maxRecDepth 100000 in
theorem eq_fansm (f g : Nat → Nat) (m : Nat) (hm : 2 ≤ m) (w : World) : (Op.equalIn m 72 (.agg (fanC f)) (.agg (fanC g))).run Tryz.prog w = .ok (sameF f g) w := by
  obtain ⟨d, rfl⟩ : ∃ d, m = d + 2 := ⟨m - 2, by omega⟩
  have e : ∀ f : Nat → Nat, fanC f = (((List.range 256).map fun c => ((f c : Nat) : Int)).map (Value.int .u32)).toArray := fun f => by unfold fanC; rw [List.map_map]; rfl
  have h := run_equal_ints (P := Tryz.prog) w d 72 41 256 .u32 Tryz.underlying72 Tryz.underlying41 (fun _ => by kernel_rfl) ((List.range 256).map fun c => ((f c : Nat) : Int)) ((List.range 256).map fun c => ((g c : Nat) : Int)) (by simp) (by simp)
  rw [← e, ← e] at h
  rw [h]
  congr 1
  rw [Bool.eq_iff_iff, decide_eq_true_iff, sameF_iff]
  constructor
  · intro h c hc
    have := congrArg (fun l => l[c]?) h
    have h2 : ((f c : Nat) : Int) = ((g c : Nat) : Int) := by simpa [hc] using this
    omega
  · intro h
    exact List.map_congr_left (fun c hc => by rw [h c (List.mem_range.1 hc)])

theorem eq_fans (f g : Nat → Nat) (w : World) : (Op.equalIn 10000 72 (.agg (fanC f)) (.agg (fanC g))).run Tryz.prog w = .ok (sameF f g) w := eq_fansm f g 10000 (by omega) w

/-! What bytes are, plainly. -/
def midB (b : List UInt8) : List UInt8 := (b.drop 8).take (b.length - 40)
def nB (b : List UInt8) : Nat := u4 b 1028
def idsB (b : List UInt8) : List Nat := keyL (nB b) (keyR (midB b))
def sumOk (b : List UInt8) : Bool := decide (sumL (b.take (b.length - 32)) = b.drop (b.length - 32))
def fanOk (b : List UInt8) : Bool := sameF (fanR (midB b)) (fanN (idsB b))
def atOk (b : List UInt8) : Bool := (List.range (nB b)).all fun k => decide (atR (midB b) (nB b) k ≤ 1048576)
def opE (b : List UInt8) : Int :=
  if (cntR b).2 ≠ 0 then (cntR b).2 else if sumOk b = false then 13 else if risB (idsB b) = false ∨ fanOk b = false then 18 else if atOk b = false then 2 else 0
theorem cnt_ok {b : List UInt8} (h : (cntR b).2 = 0) : (cntR b).1 = nB b ∧ b.length = 1096 + 40 * nB b ∧ nB b ≤ 600 ∧ wordB b = true ∧ u4 b 4 = 1 := by
  unfold cntR at h ⊢
  unfold nB
  split at h
  · cases h
  split at h
  · cases h
  split at h
  · cases h
  split at h
  · cases h
  split at h
  · cases h
  · rename_i h1 h2 h3 h4 h5
    rw [if_neg h1, if_neg h2, if_neg h3, if_neg h4, if_neg h5]
    refine ⟨rfl, by omega, by omega, ?_, ?_⟩
    · cases hw : wordB b
      · exact absurd (.inl hw) h2
      · rfl
    · exact Decidable.byContradiction (fun h => h2 (.inr h))
theorem midB_len {b : List UInt8} (h : b.length = 1096 + 40 * nB b) : (midB b).length = 1056 + 40 * nB b := by
  rw [midB, List.length_take, List.length_drop]; omega
def OpPost (w : World) (b : List UInt8) (e : Ending) (w' : World) : Prop :=
  Fr (fun _ => False) w w' ∧ ((opE b ≠ 0 ∧ e = .returned (.tuple #[.pointer none, .int .i64 (opE b)])) ∨
    (opE b = 0 ∧ ∃ X g1 g2 g3, e = .returned (.tuple #[.pointer (some ⟨X, 0, none⟩), .int .i64 0]) ∧ XAt w.heap.size w' X g1 g2 g3 (nB b) (fanR (midB b)) (keyR (midB b)) (smR (midB b) (nB b)) (atR (midB b) (nB b)) (ofR (midB b) (nB b))))
theorem keyR_big (bs : List UInt8) (k : Nat) : keyR bs k < big := by
  have h := bigV_lt ((bs.drop (1024 + 32 * k)).take 32)
  have h2 : ((bs.drop (1024 + 32 * k)).take 32).length ≤ 32 := by rw [List.length_take]; omega
  have h3 : 256 ^ ((bs.drop (1024 + 32 * k)).take 32).length ≤ 256 ^ 32 := Nat.pow_le_pow_right (by decide) h2
  exact Nat.lt_of_lt_of_le h h3
theorem idsB_big (b : List UInt8) : ∀ n ∈ idsB b, n < big := fun n hn => by
  obtain ⟨k, _, rfl⟩ := List.mem_map.1 hn
  exact keyR_big _ _
theorem idsB_len (b : List UInt8) : (idsB b).length = nB b := keyL_len _ _

set_option maxHeartbeats 1600000 in
set_option maxRecDepth 100000 in
theorem IOpen_any (A : Option Addr) (c : Nat) (b : List UInt8) (hc : b.length ≤ c) (hb : b.length ≤ 100000) (w : World) (h : Lies w A (bytesV b)) (ht : Tab w) :
    Calls Tryz.prog 7 #[.slice A b.length c] w (OpPost w b) := by
  unfold OpPost
  have HCN := Lib.hid (Icount_any A c b hc (by omega) w h)
  have HE : Hid (opE b = if (cntR b).2 ≠ 0 then (cntR b).2 else if sumOk b = false then 13 else if risB (idsB b) = false ∨ fanOk b = false then 18 else if atOk b = false then 2 else 0) := Lib.hid rfl
  by_cases hcnt : (cntR b).2 = 0
  · obtain ⟨hn1, hL, hn, -, -⟩ := cnt_ok hcnt
    have hML := midB_len hL
    have hmid : midB b = (b.drop 8).take (1056 + 40 * nB b) := by rw [midB, hL]; congr 1; omega
    have hsum : sumOk b = decide (sumL (b.take (1064 + 40 * nB b)) = b.drop (1064 + 40 * nB b)) := by rw [sumOk, hL, show 1096 + 40 * nB b - 32 = 1064 + 40 * nB b by omega]
    have hal : atOk b = (List.range (nB b)).all fun k => decide (atR (midB b) (nB b) k ≤ 1048576) := rfl
    have hfo : fanOk b = sameF (fanR (midB b)) (fanN (idsB b)) := rfl
    have hio : idsB b = keyL (nB b) (keyR (midB b)) := rfl
    have hib := idsB_big b
    obtain ⟨bk, o, hA⟩ := h.someB (by omega)
    subst hA
    have hsl := idsB_len b
    have hfnl : ∀ c, fanN (idsB b) c ≤ nB b := fun c => by rw [← hsl]; exact fanN_le _ _
    have HRS := Lib.hid (fun (w' : World) A' c' (h' : Lies w' A' (flatI (idsB b))) => ORising_any A' c' (idsB b) hib (by omega) w' h')
    have HFO := Lib.hid (fun (w' : World) A' c' (h' : Lies w' A' (flatI (idsB b))) => IfanOf_any A' c' (idsB b) (by omega) w' h')
    rw [hsl] at HRS HFO
    have HRD := Lib.hid (fun (w' : World) A' c' (h' : Lies w' A' (bytesV (midB b))) => Iread_any A' c' (midB b) (nB b) hML hn w' h')
    unfold RdxPost at HRD
    have HID := Lib.hid (fun (w' : World) X g1 g2 g3 (h' : XAt w'.heap.size w' X g1 g2 g3 (nB b) (fanR (midB b)) (keyR (midB b)) (smR (midB b) (nB b)) (atR (midB b) (nB b)) (ofR (midB b) (nB b))) => h')
    have HIDS := Lib.hid (fun (w' : World) X A1 c1 A2 c2 A3 c3 (h' : IX w' X (nB b) A1 c1 A2 c2 A3 c3 (fanR (midB b)) (keyR (midB b)) (smR (midB b) (nB b)) (atR (midB b) (nB b)) (ofR (midB b) (nB b))) => Iids_any X (nB b) A1 A2 A3 c1 c2 c3 (fanR (midB b)) (keyR (midB b)) (smR (midB b) (nB b)) (atR (midB b) (nB b)) (ofR (midB b) (nB b)) (by omega) w' h')
    unfold IdsPost at HIDS
    rw [← hio, hsl] at HIDS
    have hlm : Lies w (some ⟨bk, o + 8, none⟩) (bytesV (midB b)) := by
      have := h.cutB c 8 (1056 + 40 * nB b) hc
      rw [tlB, if_neg (by omega), ← hmid] at this
      simpa [add_off] using this
    have hlt : Lies w (some ⟨bk, o + (1064 + 40 * nB b), none⟩) (bytesV (b.drop (1064 + 40 * nB b))) := by
      have := h.tlB c (1064 + 40 * nB b) hc
      rw [tlB, if_neg (by omega)] at this
      simpa [add_off] using this
    have hle := h.takeB (1064 + 40 * nB b)
    have hel : (b.take (1064 + 40 * nB b)).length = 1064 + 40 * nB b := by rw [List.length_take]; omega
    have htl : (b.drop (1064 + 40 * nB b)).length = 32 := by rw [List.length_drop]; omega
    have heq := fun w => eq_idB (sumL (b.take (1064 + 40 * nB b))) (b.drop (1064 + 40 * nB b)) (sumL_len _) htl w
    rw [← hsum] at heq
    have HSO := Lib.hid (fun w' (f : Fr (fun _ => False) w w') P (hp : Parts w' P [b.take (1064 + 40 * nB b)]) => SOf_one w' (ht.fr f (fun e => e)) none P (b.take (1064 + 40 * nB b)) (by rw [hel]; omega) hp)
    have HE2 : Hid (opE b = if sumOk b = false then 13 else if risB (idsB b) = false ∨ fanOk b = false then 18 else if atOk b = false then 2 else 0) := Lib.hid (by rw [HE.out, if_neg (by rw [hcnt]; decide)])
    rw [hn1, hcnt] at HCN
    have HAL := Lib.hid hal
    have HFOK := Lib.hid hfo
    have HAT := Lib.hid (fun k => u4_lt (midB b) (1024 + 36 * nB b + 4 * k))
    obtain ⟨n, hnd⟩ : ∃ n, n = nB b := ⟨_, rfl⟩
    rw [← hnd] at hL hn HRS HFO HRD HIDS hlt hle hel htl heq HSO HCN HAL HAT hfnl ⊢
    obtain ⟨E, hE⟩ : ∃ E, 1064 + 40 * n = E := ⟨_, rfl⟩
    obtain ⟨M, hM⟩ : ∃ M, 1056 + 40 * n = M := ⟨_, rfl⟩
    rw [hE] at hlt hle hel htl heq HSO
    rw [hM] at HRD
    obtain ⟨L, hLd⟩ : ∃ L, b.length = L := ⟨_, rfl⟩
    rw [hLd] at hL hc HCN ⊢
    have s1 : ∀ w, (Instr.slice 28 (.slice (some ⟨bk, o, none⟩) L c) none (some (.int .i64 E)) none).run Tryz.prog w = .ok (.slice (some ⟨bk, o, none⟩) E c) w := fun w => slice_hdB bk o L c E (by omega) w
    have s2 : ∀ w, (Instr.slice 28 (.slice (some ⟨bk, o, none⟩) L c) (some (.int .i64 E)) none none).run Tryz.prog w = .ok (.slice (some ⟨bk, o + E, none⟩) 32 (c - E)) w := fun w => by
      have := slice_tlB (some ⟨bk, o, none⟩) L c E (by omega) w
      rw [tlB, if_neg (by omega), show L - E = 32 by omega] at this
      simpa [add_off] using this
    have s3 := fun w => arr_at ⟨bk, o + E, none⟩ (c - E) w
    have s4 : ∀ w, (Instr.slice 28 (.slice (some ⟨bk, o, none⟩) L c) (some (.int .i64 8)) (some (.int .i64 E)) none).run Tryz.prog w = .ok (.slice (some ⟨bk, o + 8, none⟩) M (c - 8)) w := fun w => by
      have := slice_lhB (some ⟨bk, o, none⟩) L c 8 E (by omega) (by omega) w
      rw [tlB, if_neg (by omega), show E - 8 = M by omega] at this
      simpa [add_off] using this
    have hwE : IntKind.i64.wrap ((L : Int) - 32) = (E : Int) := by rw [IntKind.wrap_i64]; omega
    obtain ⟨T32, hT32⟩ : ∃ T : TypeId, T = 24 := ⟨_, rfl⟩
    obtain ⟨n32, hn32⟩ : ∃ n : Nat, n = 32 := ⟨_, rfl⟩
    have ag32 : ∀ w, (isAgg T32).run Tryz.prog w = .ok true w := by rw [hT32]; exact fun _ => by kernel_rfl
    have sz32 : ∀ w, (sizeOf T32).run Tryz.prog w = .ok n32 w := by rw [hT32, hn32]; exact fun _ => by kernel_rfl
    obtain ⟨TF, hTF⟩ : ∃ T : TypeId, T = 72 := ⟨_, rfl⟩
    obtain ⟨n256, h256⟩ : ∃ n : Nat, n = 256 := ⟨_, rfl⟩
    have agF : ∀ w, (isAgg TF).run Tryz.prog w = .ok true w := by rw [hTF]; exact fun _ => by kernel_rfl
    have szF : ∀ w, (sizeOf TF).run Tryz.prog w = .ok n256 w := by rw [hTF, h256]; exact fun _ => by kernel_rfl
    have HN256 := Lib.hid h256
    have l1 : ∀ q : Later w, (loadCellsFrom ⟨bk, o + E, none⟩ 0 n32 #[]).run Tryz.prog q.w' = .ok (bytesV (b.drop E)).toArray q.w' := fun q => by
      rw [hn32]
      have h2 := run_loadCells_list (P := Tryz.prog) q.w' ⟨bk, o + E, none⟩ (bytesV (b.drop E)) (fun j v hv => by
        rw [add_off]
        rcases hlt.fr q.fr (fun _ _ e => e) with h0 | ⟨b', o', hA, hc⟩
        · rw [h0] at hv; simp at hv
        · cases hA; exact hc j v hv)
      rw [bytesV_length, htl] at h2
      simpa [loadCells] using h2
    have HLE := Lib.hid hle
    have HLM := Lib.hid hlm
    have HEL := Lib.hid hel
    obtain ⟨V, hV⟩ : ∃ V, (bytesV (b.drop E)).toArray = V := ⟨_, rfl⟩
    obtain ⟨U, hU⟩ : ∃ U, (bytesV (sumL (b.take E))).toArray = U := ⟨_, rfl⟩
    rw [hV] at l1 heq
    rw [hU] at heq HSO
    obtain ⟨sb, hsb⟩ : ∃ s, sumOk b = s := ⟨_, rfl⟩
    rw [hsb] at heq HE2
    have HND := Lib.hid hnd
    have HLD := Lib.hid hLd
    have HLQ := Lib.hid hL
    have HEd := Lib.hid hE
    have HMd := Lib.hid hM
    have hLE : L = E + 32 := by omega
    have HLE2 := Lib.hid hLE
    have hEc : E ≤ c := by omega
    clear hnd hLd hL hE hM hLE
    clear h hlm hlt hle htl hel hV hU hsb hn32 h256 hcnt HE hn1 hmid hML hsum hal hfo hio ht HID
    go_enter Tryz.func7, Tryz.ntmps7
    rw [show Op.load 24 (.tmp 30) = Op.load T32 (.tmp 30) by rw [hT32], show Op.load 72 (.tmp 46) = Op.load TF (.tmp 46) by rw [hTF]]
    clear hT32 hTF
    go_upto_region 5 with (go_at_call 23; refine HCN.out.mono ?_; rintro e w1 ⟨rfl, f1⟩; have HF1 := Lib.hid f1; clear f1)
    refine wp_region_held (S := fun w' => ∃ q : Later w, w' = q.w') (by kernel_rfl) ?_
    have HSq := Lib.hid (show ∃ q : Later w, w1.drew = q.w' from ⟨⟨_, HF1.out.drew⟩, rfl⟩)
    (
      refine wpAnyH_takeX (i := 0) (v := .slice (some ⟨bk, o, none⟩) L c) 22 rfl rfl (by kernel_rfl) (by kernel_rfl) (by kernel_rfl) (fun _ _ _ h => h) (.inl ⟨by rfl, ?_⟩) HSq.out ?_
      · rintro _ ⟨q, rfl⟩
        go_simp)
    (
      refine wpAnyH_takeX (i := 1) (v := .int .i64 E) 23 rfl rfl (by kernel_rfl) (by kernel_rfl) (by kernel_rfl) (fun _ _ _ h => h) (.inl ⟨by rfl, ?_⟩) HSq.out ?_
      · rintro _ ⟨q, rfl⟩
        go_simp)
    (
      refine wpAnyH_takeX (i := 2) (v := .slice (some ⟨bk, o, none⟩) E c) 24 rfl rfl (by kernel_rfl) (by kernel_rfl) (by kernel_rfl) (fun _ _ _ h => h) (.inl ⟨by rfl, ?_⟩) HSq.out ?_
      · rintro _ ⟨q, rfl⟩
        go_simp)
    (
      refine wpAnyH_takeX (i := 5) (v := .slice (some ⟨bk, o, none⟩) L c) 27 rfl rfl (by kernel_rfl) (by kernel_rfl) (by kernel_rfl) (fun _ _ _ h => h) (.inl ⟨by rfl, ?_⟩) HSq.out ?_
      · rintro _ ⟨q, rfl⟩
        go_simp)
    (
      refine wpAnyH_takeX (i := 6) (v := .int .i64 E) 28 rfl rfl (by kernel_rfl) (by kernel_rfl) (by kernel_rfl) (fun _ _ _ h => h) (.inl ⟨by rfl, ?_⟩) HSq.out ?_
      · rintro _ ⟨q, rfl⟩
        go_simp)
    (
      refine wpAnyH_takeX (i := 7) (v := .slice (some ⟨bk, o + E, none⟩) 32 (c - E)) 29 rfl rfl (by kernel_rfl) (by kernel_rfl) (by kernel_rfl) (fun _ _ _ h => h) (.inl ⟨by rfl, ?_⟩) HSq.out ?_
      · rintro _ ⟨q, rfl⟩
        go_simp)
    (
      refine wpAnyH_takeX (i := 8) (v := .pointer (some ⟨bk, o + E, none⟩)) 30 rfl rfl (by kernel_rfl) (by kernel_rfl) (by kernel_rfl) (fun _ _ _ h => h) (.inl ⟨by rfl, ?_⟩) HSq.out ?_
      · rintro _ ⟨q, rfl⟩
        go_simp)
    (
      refine wpAnyH_takeX (i := 9) (v := .agg V) 31 rfl rfl (by kernel_rfl) (by kernel_rfl) (by kernel_rfl) (fun _ _ _ h => h) (.inl ⟨by rfl, ?_⟩) HSq.out ?_
      · rintro _ ⟨q, rfl⟩
        go_simp)
    (
      change wpAnyH _ _ _ _ _ _ _ _ (World.drew w1)
      have HFd := Lib.hid (show Fr (fun _ => False) w1 (World.drew w1) from (Fr.refl _ w1).drew)
      obtain ⟨wd, hwd⟩ : ∃ wd, World.drew w1 = wd := ⟨_, rfl⟩
      rw [hwd]
      rw [hwd] at HFd
      clear hwd HSq)
    clear l1
    have HFw := Lib.hid (HF1.out.trans HFd.out (fun _ _ e => e))
    (
      try simp only [List.setIfInBounds_toArray, List.set_cons_succ, List.set_cons_zero]
      refine wpAnyH_all (rs := [3]) (by kernel_rfl) (by simp) ?_
      intro i hi
      simp only [List.mem_cons, List.not_mem_nil, or_false] at hi
      subst hi)
    refine wpOp_step rfl (fun K hK => ?_)
    go_simp
    refine hK _ _ ⟨⟨⟨_, HFw.out.alloc _⟩, rfl⟩, ?_⟩
    clear hK K
    (
      try simp only [List.setIfInBounds_toArray, List.set_cons_succ, List.set_cons_zero]
      refine wpAnyH_all (rs := [4]) (by kernel_rfl) (by simp) ?_
      intro i hi
      simp only [List.mem_cons, List.not_mem_nil, or_false] at hi
      subst hi)
    refine wpOp_step rfl (fun K hK => ?_)
    go_simp
    go_wp2_with (go_at_call 24; refine (HSO.out _ (HFw.out.alloc _) _ (parts1 wd (b.take E) (some ⟨bk, o, none⟩) c E HEL.out hEc (HLE.out.fr HFw.out (fun _ _ e => e)))).mono ?_; rintro e w3 ⟨rfl, f3⟩; have HF3 := Lib.hid ((HFw.out.alloc (.cells #[.slice (some ⟨bk, o, none⟩) E c] 28)).trans f3 (fun _ _ e => e)); clear f3)
    refine ⟨⟨⟨_, HF3.out⟩, rfl⟩, ?_⟩
    have HSq := Lib.hid (show ∃ q : Later w, w3 = q.w' from ⟨⟨_, HF3.out⟩, rfl⟩)
    (
      refine wpAnyH_takeX (i := 10) (v := .bool (!sb)) 32 rfl rfl (by kernel_rfl) (by kernel_rfl) (by kernel_rfl) (fun _ _ _ h => h) (.inl ⟨by rfl, ?_⟩) HSq.out ?_
      · rintro _ ⟨q, rfl⟩
        go_simp)
    refine wpAnyH_done (by kernel_rfl) ?_ _
    clear heq HSq
    obtain ⟨rb, hrb⟩ : ∃ r, risB (idsB b) = r := ⟨_, rfl⟩
    obtain ⟨fb, hfb⟩ : ∃ r, fanOk b = r := ⟨_, rfl⟩
    rw [hrb] at HRS HE2
    rw [hfb] at HE2
    have heq2 := fun w => eq_fans (fanR (midB b)) (fanN (idsB b)) w
    rw [← HFOK.out, hfb, show fanC (fanN (idsB b)) = fanI (idsB b) from rfl] at heq2
    clear hrb hfb
    cases sb
    · have HR : Hid (opE b = 13) := Lib.hid (by rw [HE2.out]; rfl)
      go_wp2_with fail
      go_ret2
      exact ⟨HF3.out, .inl ⟨by rw [HR.out]; decide, by rw [HR.out]; rfl⟩⟩
    · go_upto_region 9 with (first
        | (go_at_call 25; refine (HRD.out w3 _ _ (HLM.out.fr HF3.out (fun _ _ e => e))).mono ?_; rintro e w4 ⟨X, g1, g2, g3, rfl, hx, f4⟩; have HX4 := Lib.hid hx; have HF4 := Lib.hid (HF3.out.trans f4 (fun _ _ e => e)); clear hx f4)
        | (go_at_call 26; refine (HIDS.out _ _ _ _ _ _ _ _ HX4.out.ix).mono ?_; rintro e w5 ⟨G, rfl, wg, lg, f5⟩; have HX5 := Lib.hid (HX4.out.frF f5); have HG5 := Lib.hid wg; have HF5 := Lib.hid (HF4.out.trans f5 (fun _ _ e => e)); clear wg lg f5))
      have HRq := Lib.hid (fun q : Later w5 => HRS.out q.w' (some ⟨G, 0, none⟩) n ((HG5.out.fr q.fr (fun e => e)).list))
      cases rb
      · have HR : Hid (opE b = 18) := Lib.hid (by rw [HE2.out]; simp)
        clear heq2
        refine wp_region_later (w0 := w5) (Fr.refl _ _) (by kernel_rfl) (by kernel_rfl) ?_
        repeat (quiet_step ((go_at_call 27; refine Calls.later_of (HRq.out _))))
        refine wpQuiet_nil ?_
        intro _ hw'
        obtain ⟨q, hw''⟩ := hw'
        subst hw''
        go_wp2_with fail
        go_ret2
        exact ⟨HF5.out.trans q.fr (fun _ _ e => e), .inl ⟨by rw [HR.out]; decide, by rw [HR.out]; rfl⟩⟩
      · have HFq := Lib.hid (show ∀ q : Later w5, Calls Tryz.prog 28 #[.slice (some ⟨G, 0, none⟩) n n] q.w' fun e w' => e = .returned (.agg (fanI (idsB b))) ∧ Below q.w'.heap.size q.w' w' from fun q => (HFO.out q.w' (some ⟨G, 0, none⟩) n ((HG5.out.fr q.fr (fun e => e)).list)).mono (fun e w' h => ⟨h.1, h.2.below (fun _ _ e => e)⟩))
        have lF : ∀ q : Later w5, (loadCellsFrom ⟨X, 0, none⟩ 0 n256 #[]).run Tryz.prog q.w' = .ok (fanC (fanR (midB b))) q.w' := fun q => load_fan (HX5.out.x.fr q.fr (fun e => e)) n256 HN256.out
        obtain ⟨FA, hFA⟩ : ∃ F, fanC (fanR (midB b)) = F := ⟨_, rfl⟩
        obtain ⟨FB, hFB⟩ : ∃ F, fanI (idsB b) = F := ⟨_, rfl⟩
        rw [hFA] at lF heq2
        rw [hFB] at HFq heq2
        clear hFA hFB
        refine wp_region_later (w0 := w5) (Fr.refl _ _) (by kernel_rfl) (by kernel_rfl) ?_
        repeat (quiet_step (first | (go_at_call 27; refine Calls.later_of (HRq.out _)) | (go_at_call 28; refine Calls.later_of (HFq.out _))))
        refine wpQuiet_nil ?_
        intro _ hw'
        obtain ⟨q, hw''⟩ := hw'
        subst hw''
        clear lF heq2
        have HF6 := Lib.hid (HF5.out.trans q.fr (fun _ _ e => e))
        have HX6 := Lib.hid (HX5.out.frF q.fr)
        obtain ⟨w6, hw6⟩ : ∃ w6, q.w' = w6 := ⟨_, rfl⟩
        rw [hw6] at HF6 HX6 ⊢
        clear hw6
        cases fb
        · have HR : Hid (opE b = 18) := Lib.hid (by rw [HE2.out]; simp)
          go_wp2_with fail
          go_ret2
          exact ⟨HF6.out, .inl ⟨by rw [HR.out]; decide, by rw [HR.out]; rfl⟩⟩
        · have c1 : w6.cell? ⟨X, 258, none⟩ = some (.slice (some ⟨g3, 0, none⟩) n n) := by rw [HX6.out.x.cell]; exact idxC_mid _ _ _ _ _ 2 (by decide)
          go_wp2_with fail
          clear c1
          go_loopg [57] n (fun kx s wr => ∃ k : Nat, s = .int .i64 k ∧ k ≤ n ∧ n - k ≤ kx ∧ wr = w6 ∧ Hid (∀ j, j < k → atR (midB b) n j ≤ 1048576))
          case atStart => exact ⟨0, rfl, by omega, by omega, rfl, Lib.hid (fun j hj => by omega)⟩
          case round =>
            obtain ⟨k, rfl, hk, hkx, rfl, HZ⟩ := hrel
            have wk := wrap_nat k (by omega)
            by_cases hlt : k < n
            · have hltz : (k : Int) < n := by omega
              have c0 : wr.cell? ⟨g3, k, none⟩ = some (.int .u32 (atR (midB b) n k : Nat)) := by rw [HX6.out.a.cell, List.getElem?_toArray, numL_get _ _ _ hlt]
              obtain ⟨T, hT⟩ : ∃ T, atR (midB b) n k = T := ⟨_, rfl⟩
              rw [hT] at c0
              have HTd := Lib.hid hT
              clear hT
              by_cases hbig : 1048576 < T
              · have hbz : (1048576 : Int) < (T : Int) := by omega
                have HR : Hid (opE b = 2) := Lib.hid (by
                  have : atOk b = false := by
                    rw [HAL.out, List.all_eq_false]
                    exact ⟨k, List.mem_range.2 hlt, by rw [HTd.out]; simpa using hbig⟩
                  rw [HE2.out, this]
                  rfl)
                go_wp2_with fail
                (try simp only [Exit.inBlock, Exit.then])
                go_ret2
                exact ⟨HF6.out, .inl ⟨by rw [HR.out]; decide, by rw [HR.out]; rfl⟩⟩
              · have hbz : ¬ ((1048576 : Int) < (T : Int)) := by omega
                go_wp2_with fail
                go_roundg (n - (k + 1))
                case measure => omega
                case rel => exact ⟨k + 1, by go_num, by omega, Nat.le_refl _, rfl, Lib.hid (fun j hj => (by omega : j < k ∨ j = k).elim (HZ.out j) (fun e => by subst e; rw [HTd.out]; omega))⟩
            · have hltz : ¬ ((k : Int) < n) := by omega
              have HR : Hid (opE b = 0) := Lib.hid (by
                have : atOk b = true := by
                  rw [HAL.out, List.all_eq_true]
                  intro j hj
                  have := HZ.out j (by have := List.mem_range.1 hj; omega)
                  simpa using this
                rw [HE2.out, this]
                rfl)
              go_wp2_with fail
              go_ret2
              have hx := HX6.out
              have hs := HF3.out.size
              exact ⟨HF6.out, .inr ⟨HR.out, X, rfl, g1, g2, g3, ⟨hx.x, hx.k, hx.s, hx.a, Nat.le_trans hs hx.bx, Nat.le_trans hs hx.b1, Nat.le_trans hs hx.b2, Nat.le_trans hs hx.b3, hx.n23⟩⟩⟩
  · have HR : Hid (opE b = (cntR b).2) := Lib.hid (by rw [HE.out, if_pos hcnt])
    obtain ⟨N, hN⟩ : ∃ N, (cntR b).1 = N := ⟨_, rfl⟩
    obtain ⟨E, hEd⟩ : ∃ E, (cntR b).2 = E := ⟨_, rfl⟩
    rw [hN, hEd] at HCN
    rw [hEd] at HR hcnt
    have hE0 : (E != 0) = true := by simpa using hcnt
    clear hN hEd h
    go_enter Tryz.func7, Tryz.ntmps7
    go_wp2_with (go_at_call 23; refine HCN.out.mono ?_; rintro e w' ⟨rfl, f1⟩; have HF1 := Lib.hid f1; clear f1)
    go_ret2
    exact ⟨HF1.out, .inl ⟨by rw [HR.out]; exact hcnt, by rw [HR.out]; rfl⟩⟩
end Go.Proofs.YtgbhdjncccmabaaGreatDoor

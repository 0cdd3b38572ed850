/- What is proved: texts that stand one behind the other: Pwh. Conditions: each theorem names its own. -/
import Derived.Test.YtkaeoflgnnlbeaaGreatDoorQPwe
import Derived.Test.YtkaeoflgnnlbeaaGreatDoorQPwf
import Derived.Lib.SlBytesConst
/- What is proved: what a packer lays ahead of the entries, and behind them; over what a sum tells. Conditions: the packer is the caller's. -/
namespace Go.Proofs.YtkaeoflgnnlbeaaGreatDoor
open Go.RowKit
set_option linter.unusedVariables false

theorem lies_row (w : World) (l : List UInt8) : Lies (w.alloc (.cells (bytesV l).toArray 5)) (some ⟨w.heap.size, 0, none⟩) (bytesV l) :=
  .inr ⟨w.heap.size, 0, rfl, fun j u hu => by rw [Nat.zero_add, (Whole.new w 5 _).cell]; simpa using hu⟩
theorem lies_whole {w : World} {g : Nat} {t : TypeId} {l : List UInt8} (h : Whole w g t (idV l)) : Lies w (some ⟨g, 0, none⟩) (bytesV l) :=
  .inr ⟨g, 0, rfl, fun j u hu => by rw [Nat.zero_add, h.cell]; simpa [idV] using hu⟩

set_option maxHeartbeats 12800000 in
set_option maxRecDepth 100000 in
theorem Phead_any (w0 : World) (g : Nat) (v vp vd : Value) (IA : Option Addr) (n c : Nat) (chain : Int) (pls : List PPl) (ds : List Int) (hn : n ≤ 600) (w : World) (hF : Fr (fun _ => False) w0 w) (hP : Pk w0.heap.size w g v vp vd [] IA n c chain pls ds) :
    Calls Tryz.prog 23 #[.pointer (some ⟨g, 0, none⟩)] w (EtPost w0 w g (headP n) IA n c chain pls ds) := by
  have HF0 := Lib.hid hF
  have HP0 := Lib.hid hP
  have hcv : (convert 25 25 (.slice (some ⟨w.heap.size, 0, none⟩) 4 4)).run Tryz.prog (w.alloc (.cells #[.int .u8 80, .int .u8 65, .int .u8 67, .int .u8 75] 5)) = .ok (.slice (some ⟨w.heap.size, 0, none⟩) 4 4) (w.alloc (.cells #[.int .u8 80, .int .u8 65, .int .u8 67, .int .u8 75] 5 (4, 5))) :=
    Lib.run_convert_bytes_const (P := Tryz.prog) w 25 5 #[.int .u8 80, .int .u8 65, .int .u8 67, .int .u8 75] 4 4 Tryz.underlying25 Tryz.underlying5
  have hll : Lies (w.alloc (.cells #[.int .u8 80, .int .u8 65, .int .u8 67, .int .u8 75] 5 (4, 5))) (some ⟨w.heap.size, 0, none⟩) (bytesV [80, 65, 67, 75]) :=
    .inr ⟨w.heap.size, 0, rfl, fun j u hu => by
      rw [Nat.zero_add]
      have e : (w.alloc (.cells #[.int .u8 80, .int .u8 65, .int .u8 67, .int .u8 75] 5 (4, 5))).cell? ⟨w.heap.size, j, none⟩ = (#[.int .u8 80, .int .u8 65, .int .u8 67, .int .u8 75] : Array Value)[j]? := cell_of_row _ _ _ _ _ _ (heap_alloc_new w _)
      rw [e, ← Array.getElem?_toList]; exact hu⟩
  obtain ⟨w1, hw1⟩ : ∃ w1, w.alloc (.cells #[.int .u8 80, .int .u8 65, .int .u8 67, .int .u8 75] 5 (4, 5)) = w1 := ⟨_, rfl⟩
  have HF01 := Lib.hid (show Fr (fun _ => False) w w1 by subst hw1; exact (Fr.refl _ _).alloc _)
  have HP1 := Lib.hid (HP0.out.frF HF01.out)
  have HF1 := Lib.hid (HF0.out.trans HF01.out (fun _ _ e => e))
  rw [hw1] at hll
  have HR := Lib.hid (WRaw_n g v [] [80, 65, 67, 75] (some ⟨w.heap.size, 0, none⟩) 4 4 w1 rfl HP1.out.wr hll (by simp))
  unfold WPost WTo at HR
  rw [List.nil_append] at HR
  have hnw : IntKind.u32.wrap (n : Int) = n := by rw [IntKind.wrap_u32]; omega
  rw [hw1] at hcv
  clear hF hP hll hw1
  go_enter Tryz.func23, Tryz.ntmps23
  go_upto_region 1 with (go_at_call 44; refine HR.out.mono ?_; rintro e w2 ⟨rfl, v2, r2, s2⟩; have hpw := HP1.out.wrote HF1.out.size r2 s2; have HP2 := Lib.hid hpw.1; have HF2 := Lib.hid (frAbove HF1.out hpw.2); clear hpw r2 s2)
  clear hcv
  have HU := Lib.hid (WU32_any g v2 [80, 65, 67, 75] 1 w2 HP2.out.wr (by omega) (by omega) (by simp))
  unfold WPost WTo at HU
  go_upto_region 2 with (go_at_call 45; refine HU.out.mono ?_; rintro e w3 ⟨rfl, v3, r3, s3⟩; have hpw := HP2.out.wrote HF2.out.size r3 s3; have HP3 := Lib.hid hpw.1; have HF3 := Lib.hid (frAbove HF2.out hpw.2); clear hpw r3 s3)
  refine wp_region_held (S := fun w' => w'.cell? ⟨g, 1, none⟩ = some (.slice IA n c)) (by kernel_rfl) ?_
  have HSq := Lib.hid (show (World.drew w3).cell? ⟨g, 1, none⟩ = some (.slice IA n c) from HP3.out.cells.2.1)
  (
    refine wpAnyH_takeP (i := 0) (v := .pointer (some ⟨g, 0, none⟩)) 12 rfl rfl (by kernel_rfl) (by kernel_rfl) (by kernel_rfl) (fun _ _ _ h => h) (.inl ⟨by rfl, ?_⟩) HSq.out ?_
    · intro xw xf
      go_simp)
  (
    refine wpAnyH_takeP (i := 1) (v := .pointer (some ⟨g, 0, none⟩)) 13 rfl rfl (by kernel_rfl) (by kernel_rfl) (by kernel_rfl) (fun _ _ _ h => h) (.inl ⟨by rfl, ?_⟩) HSq.out ?_
    · intro xw xf
      go_simp)
  (
    refine wpAnyH_takeP (i := 2) (v := .pointer (some ⟨g, 0, none⟩)) 14 rfl rfl (by kernel_rfl) (by kernel_rfl) (by kernel_rfl) (fun _ _ _ h => h) (.inl ⟨by rfl, ?_⟩) HSq.out ?_
    · intro xw xf
      go_simp)
  (
    refine wpAnyH_takeP (i := 3) (v := .pointer (some ⟨g, 0, none⟩)) 15 rfl rfl (by kernel_rfl) (by kernel_rfl) (by kernel_rfl) (fun _ _ _ h => h) (.inl ⟨by rfl, ?_⟩) HSq.out ?_
    · intro xw xf
      go_simp)
  (
    refine wpAnyH_takeP (i := 4) (v := .pointer (some ⟨g, 0, none⟩)) 16 rfl rfl (by kernel_rfl) (by kernel_rfl) (by kernel_rfl) (fun _ _ _ h => h) (.inl ⟨by rfl, ?_⟩) HSq.out ?_
    · intro xw xf
      go_simp)
  (
    refine wpAnyH_takeP (i := 5) (v := .pointer (some ⟨g, 1, none⟩)) 17 rfl rfl (by kernel_rfl) (by kernel_rfl) (by kernel_rfl) (fun _ _ _ h => h) (.inl ⟨by rfl, ?_⟩) HSq.out ?_
    · intro xw xf
      go_simp)
  (
    refine wpAnyH_takeP (i := 6) (v := .slice IA n c) 18 rfl rfl (by kernel_rfl) (by kernel_rfl) (by kernel_rfl) (fun _ _ _ h => h) (.inl ⟨by rfl, ?_⟩) HSq.out ?_
    · intro xw xf
      go_simp)
  (
    refine wpAnyH_takeP (i := 7) (v := .int .i64 n) 19 rfl rfl (by kernel_rfl) (by kernel_rfl) (by kernel_rfl) (fun _ _ _ h => h) (.inl ⟨by rfl, ?_⟩) HSq.out ?_
    · intro xw xf
      go_simp)
  (
    refine wpAnyH_takeP (i := 8) (v := .int .u32 n) 20 rfl rfl (by kernel_rfl) (by kernel_rfl) (by kernel_rfl) (fun _ _ _ h => h) (.inl ⟨by rfl, ?_⟩) HSq.out ?_
    · intro xw xf
      go_simp)
  (
    change wpAnyH _ _ _ _ _ _ _ _ (World.drew w3)
    have HFd := Lib.hid (show Fr (fun _ => False) w3 (World.drew w3) from (Fr.refl _ w3).drew)
    obtain ⟨wd, hwd⟩ : ∃ wd, World.drew w3 = wd := ⟨_, rfl⟩
    rw [hwd]
    rw [hwd] at HFd
    clear hwd HSq)
  have HPd := Lib.hid (HP3.out.frF HFd.out)
  have HFwd := Lib.hid (HF3.out.trans HFd.out (fun _ _ e => e))
  have HU2 := Lib.hid (WU32_any g v3 ([80, 65, 67, 75] ++ hiB 1 4 4) n wd HPd.out.wr (by omega) (by omega) (by simp [hiB_length]))
  unfold WPost WTo at HU2
  (
    try simp only [List.setIfInBounds_toArray, List.set_cons_succ, List.set_cons_zero]
    refine wpAnyH_all (rs := [9]) (by kernel_rfl) (by simp) ?_
    intro i hi
    simp only [List.mem_cons, List.not_mem_nil, or_false] at hi
    subst hi)
  refine wpOp_step rfl (fun K hK => ?_)
  go_simp
  go_wp2_with (go_at_call 45; refine HU2.out.mono ?_; rintro e w4 ⟨rfl, v4, r4, s4⟩; have hpw := HPd.out.wrote HFwd.out.size r4 s4; have HP4 := Lib.hid hpw.1; have HF4 := Lib.hid (frAbove HFwd.out hpw.2); clear hpw r4 s4)
  refine ⟨HP4.out.cells.2.1, ?_⟩
  refine wpAnyH_done (by kernel_rfl) ?_ _
  go_wp2_with fail
  go_end0
  exact ⟨rfl, v4, vp, vd, HP4.out, HF4.out⟩

/-- What a sum tells, in each world that comes of one. -/
def SoSays (su : List UInt8 → List UInt8) (w0 : World) : Prop :=
  ∀ (A : Option Addr) (l : List UInt8) (w : World), Fr (fun _ => False) w0 w → Parts w A [l] → l.length ≤ 10000000 → Calls Tryz.prog 50 #[.slice A 1 1] w fun e w' => e = .returned (.agg (idV (su l))) ∧ Fr (fun _ => False) w w'
set_option maxHeartbeats 12800000 in
set_option maxRecDepth 100000 in
theorem Ptrailer_any (su : List UInt8 → List UInt8) (hsl : ∀ l, (su l).length = 32) (w0 : World) (hsu : SoSays su w0) (g : Nat) (v vp vd : Value) (xs : List UInt8) (IA : Option Addr) (n c : Nat) (chain : Int) (pls : List PPl) (ds : List Int) (hx : xs.length ≤ 2000000) (w : World) (hF : Fr (fun _ => False) w0 w) (hP : Pk w0.heap.size w g v vp vd xs IA n c chain pls ds) :
    Calls Tryz.prog 26 #[.pointer (some ⟨g, 0, none⟩)] w (EtPost w0 w g (xs ++ su xs) IA n c chain pls ds) := by
  have HF0 := Lib.hid hF
  have HP0 := Lib.hid hP
  have HB := Lib.hid (WBytes_any g v xs w hP.wr (by omega))
  unfold OwnPost at HB
  obtain ⟨XL, hXL⟩ : ∃ XL, xs.length = XL := ⟨_, rfl⟩
  have HXL := Lib.hid hXL
  rw [hXL] at HB
  have HSu := Lib.hid (fun w' (f : Fr (fun _ => False) w0 w') A (hp : Parts w' A [xs]) => hsu A xs w' f hp (by omega))
  have hVs := idV_size (su xs) (hsl xs)
  have hVo : (idV (su xs)).all (·.oneCell') = true := Array.all_eq_true_iff_forall_mem.2 (fun u hu => idV_one (su xs) u (by simpa using hu))
  have HSl := Lib.hid (hsl xs)
  obtain ⟨V, hV⟩ : ∃ V, idV (su xs) = V := ⟨_, rfl⟩
  have HV := Lib.hid hV
  rw [hV] at hVs hVo HSu
  have hsa : ∀ (b : Nat) (w : World), (Instr.sliceAt 48 (.pointer (some ⟨b, 0, none⟩)) none none none).run Tryz.prog w = .ok (.slice (some ⟨b, 0, none⟩) 32 32) w := fun b w => by kernel_rfl
  clear hF hP hXL hsu hsl hV
  go_enter Tryz.func26, Tryz.ntmps26
  go_upto_region 1 with (first
    | (go_at_call 27; refine HB.out.mono ?_; rintro e w1 ⟨v1, rfl, o1, b1⟩; have HO1 := Lib.hid o1; have HF1 := Lib.hid (Fr.of_below (S := fun _ => False) b1); obtain ⟨A1, c1, hv1, hk1, -⟩ := own_slice o1; subst hv1; have HK1 := Lib.hid hk1; clear o1 b1 hk1)
    | (go_at_call 50; refine (HSu.out _ ((HF0.out.trans HF1.out (fun _ _ e => e)).alloc _) _ (parts1 w1 xs A1 c1 XL HXL.out HK1.out (Lies.of_own HO1.out))).mono ?_; rintro e w2 ⟨rfl, f2⟩; have HF2 := Lib.hid ((HF1.out.alloc (.cells #[.slice A1 XL c1] 25)).trans f2 (fun _ _ e => e)); clear f2)
    | (refine wpList_store_at rfl 48 _ _ rfl w2.heap.size 0 48 _ V rfl rfl (Whole.new _ _ _) (by rw [hVs]; decide) (by rw [hVs]; exact sizeID) hVo ?_
       intro w4 hw4 hf4
       rw [laidAt_all _ _ (by rw [hVs]; rfl)] at hw4
       have HF4 := Lib.hid (show Fr (fun _ => False) w w4 from (HF2.out.alloc _).trans hf4 (fun j hj e => by have := HF2.out.size; omega))
       have HW4 := Lib.hid hw4
       clear hw4 hf4))
  obtain ⟨sb, hsb⟩ : ∃ sb, w2.heap.size = sb := ⟨_, rfl⟩
  rw [hsb] at HW4 ⊢
  clear hsb
  have HP4 := Lib.hid (HP0.out.frF HF4.out)
  have HFw4 := Lib.hid (HF0.out.trans HF4.out (fun _ _ e => e))
  refine wp_region_held (S := fun _ => True) (by kernel_rfl) ?_
  have HSq := Lib.hid True.intro
  (
    refine wpAnyH_takeP (i := 0) (v := .pointer (some ⟨g, 0, none⟩)) 9 rfl rfl (by kernel_rfl) (by kernel_rfl) (by kernel_rfl) (fun _ _ _ h => h) (.inl ⟨by rfl, ?_⟩) HSq.out ?_
    · intro xw xf
      go_simp)
  (
    refine wpAnyH_takeP (i := 1) (v := .pointer (some ⟨g, 0, none⟩)) 10 rfl rfl (by kernel_rfl) (by kernel_rfl) (by kernel_rfl) (fun _ _ _ h => h) (.inl ⟨by rfl, ?_⟩) HSq.out ?_
    · intro xw xf
      go_simp)
  (
    refine wpAnyH_takeP (i := 2) (v := .pointer (some ⟨g, 0, none⟩)) 11 rfl rfl (by kernel_rfl) (by kernel_rfl) (by kernel_rfl) (fun _ _ _ h => h) (.inl ⟨by rfl, ?_⟩) HSq.out ?_
    · intro xw xf
      go_simp)
  (
    refine wpAnyH_takeP (i := 3) (v := .slice (some ⟨sb, 0, none⟩) 32 32) 12 rfl rfl (by kernel_rfl) (by kernel_rfl) (by kernel_rfl) (fun _ _ _ h => h) (.inl ⟨by rfl, ?_⟩) HSq.out ?_
    · intro xw xf
      go_simp)
  (
    change wpAnyH _ _ _ _ _ _ _ _ (World.drew w4)
    have HFd := Lib.hid (show Fr (fun _ => False) w4 (World.drew w4) from (Fr.refl _ w4).drew)
    obtain ⟨wd, hwd⟩ : ∃ wd, World.drew w4 = wd := ⟨_, rfl⟩
    rw [hwd]
    rw [hwd] at HFd
    clear hwd HSq)
  have HPd := Lib.hid (HP4.out.frF HFd.out)
  have HFwd := Lib.hid (HFw4.out.trans HFd.out (fun _ _ e => e))
  have HWd := Lib.hid (HW4.out.fr HFd.out (fun e => e))
  have HLd := Lib.hid (show Lies wd (some ⟨sb, 0, none⟩) (bytesV (su xs)) from lies_whole (by rw [HV.out]; exact HWd.out))
  have HR := Lib.hid (WRaw_n g v xs (su xs) (some ⟨sb, 0, none⟩) 32 32 wd HSl.out HPd.out.wr HLd.out (by have := HSl.out; omega))
  unfold WPost WTo at HR
  (
    try simp only [List.setIfInBounds_toArray, List.set_cons_succ, List.set_cons_zero]
    refine wpAnyH_all (rs := [4]) (by kernel_rfl) (by simp) ?_
    intro i hi
    simp only [List.mem_cons, List.not_mem_nil, or_false] at hi
    subst hi)
  refine wpOp_step rfl (fun K hK => ?_)
  go_simp
  go_wp2_with (go_at_call 44; refine HR.out.mono ?_; rintro e w5 ⟨rfl, v5, r5, s5⟩; have hpw := HPd.out.wrote HFwd.out.size r5 s5; have HP5 := Lib.hid hpw.1; have HF5 := Lib.hid (frAbove HFwd.out hpw.2); clear hpw r5 s5)
  refine ⟨True.intro, ?_⟩
  refine wpAnyH_done (by kernel_rfl) ?_ _
  go_wp2_with fail
  go_end0
  exact ⟨rfl, v5, vp, vd, HP5.out, HF5.out⟩
end Go.Proofs.YtkaeoflgnnlbeaaGreatDoor

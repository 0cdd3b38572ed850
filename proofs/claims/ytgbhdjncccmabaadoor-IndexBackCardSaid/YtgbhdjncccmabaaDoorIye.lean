/- What is proved: the walk of the law IndexBack. Conditions: the arguments' cells are there; the table of the sums lies as its text lays it. -/
import Derived.Test.YtgbhdjncccmabaaDoorIyd
import Derived.Test.YtgbhdjncccmabaaDoorIxv
import Derived.Deep.CutBlock
import Derived.Deep.DeepCutAuto
namespace Go.Proofs.YtgbhdjncccmabaaDoor
open Go.RowKit
set_option linter.unusedVariables false

theorem load_wholeI {w : World} {g : Nat} {t : TypeId} {cs : Array Value} (h : Whole w g t cs) (n : Nat) (hn : n = cs.size) : (loadCellsFrom ⟨g, 0, none⟩ 0 n #[]).run Tryd.prog w = .ok cs w := by
  have h2 := run_loadCells_list (P := Tryd.prog) w ⟨g, 0, none⟩ cs.toList (fun j v hv => by rw [add_off, Nat.zero_add, h.cell]; simpa using hv)
  rw [Array.length_toList] at h2
  rw [hn]
  simpa [loadCells] using h2

theorem wpList_buildSlice_toI {P : Program} {ops : Array Oper} {rest : List Oper} {o : Oper} {a : Act} {w : World} {Q : Exit → Act → World → Prop} (hgd : o.guard = none) (t : TypeId) (n : Nat) (parts : Array (Nat × Operand)) (ho : o.op = .buildSlice t n parts)
    (vals : Array (Nat × Value)) (hvals : (parts.map fun (i, x) => (i, a.eval x)) = vals) (v : Value) (w' : World) (hv : (Instr.buildSlice t n vals).run P w = .ok v w') (h : wpList P ops Q rest (a.put o.dst v) w') : wpList P ops Q (o :: rest) a w :=
  wpList_plain hgd fun K hK => by
    unfold Oper.wp execOp
    simp only [ho, hvals, Sem.run_bind, hv, Result.andThen_ok, Sem.run_pure]
    exact hK _ _ h
theorem build_onep (p : Pl) (w : World) : (Instr.buildSlice 22 1 #[(0, .agg p.cells)]).run Tryd.prog w = .ok (.slice (some ⟨w.heap.size, 0, none⟩) 1 1) (w.alloc (.cells p.cells 49)) := by kernel_rfl
theorem src_onep (w : World) (p : Pl) (pc : Array Value) (h : p.cells = pc) : Src Tryd.prog 34 22 (.slice (some ⟨w.heap.size, 0, none⟩) 1 1) 1 (flatP [p]) (w.alloc (.cells pc 49)) := by
  subst h
  refine Lies.srcP (ps := [p]) ?_ rfl 1
  have := (Whole.new w 49 p.cells).lies
  rw [flatP_single]
  exact this
theorem OwnP.nil {w0 w : World} (f : Fr (fun _ => False) w0 w) : OwnP w0 w (.slice none 0 0) [] := ⟨World.ownsRow_nil w w0.heap.size 49 34, f⟩
theorem OwnP.grow {w0 w w' : World} {v v' : Value} {ns ms ks : List Pl} (h : OwnP w0 w v ns) (hk : ks = ns ++ ms) {m n : Nat} (hn : n = ns.length) (hm : m = ms.length) (o : w'.ownsRow w0.heap.size 49 34 v' (n + m) (flatP ns ++ flatP ms)) (g : w.grownBy w' v.ownBlock) : OwnP w0 w' v' ks := by
  subst hk
  refine ⟨?_, fr_append h.1 h.2 g⟩
  rw [List.length_append, flatP_append, ← hn, ← hm]
  exact o

set_option maxHeartbeats 6400000 in
set_option maxRecDepth 100000 in
theorem back_walk (A : Option Addr) (cap : Nat) (ps : List Pl) (of : Nat) (B : Option Addr) (c : Nat) (bs : List UInt8) (hok : ∀ p ∈ ps, p.Ok) (hof : of < big) (hc : bs.length ≤ c) (w : World)
    (h : Lies w A (flatP ps)) (hb : Lies w B (bytesV bs)) (ht : Tab w) :
    Calls Tryd.prog 5 #[.slice A ps.length cap, .agg (idC (dgt of)), .slice B bs.length c] w fun e w' => e = .returned (.bool true) ∧ Fr (fun _ => False) w w' := by
  obtain ⟨w0, hw0⟩ : ∃ w0, w.alloc (.cells (idC (dgt of)) 24) = w0 := ⟨_, rfl⟩
  have hF0 : Fr (fun _ => False) w w0 := by subst hw0; exact (Fr.refl _ w).alloc _
  have hO : Whole w0 w.heap.size 24 (idC (dgt of)) := by subst hw0; exact Whole.new w 24 _
  have HF0 := Lib.hid hF0
  have HWK := Lib.hid (fun w' (f : Fr (fun _ => False) w w') => Iworks_any w' (ht.fr f (fun e => e)))
  by_cases hbig : 100 < ps.length ∨ 4000 < bs.length
  · obtain ⟨L, hL⟩ : ∃ L, ps.length = L := ⟨_, rfl⟩
    obtain ⟨M, hM⟩ : ∃ M, bs.length = M := ⟨_, rfl⟩
    obtain ⟨co, hco⟩ : ∃ c, idC (dgt of) = c := ⟨_, rfl⟩
    rw [hL, hM] at hbig ⊢
    rw [hco] at hw0 ⊢
    clear hF0 hO hL hM hco hok hof hc h hb ht
    by_cases h1 : 100 < L
    · have h1z : (100 : Int) < (L : Int) := by omega
      clear hbig
      go_enter Tryd.func5, Tryd.ntmps5
      go_wp2_with (go_at_call 7; refine (HWK.out _ HF0.out).mono ?_; rintro e w9 ⟨rfl, f9⟩; have HF9 := Lib.hid (HF0.out.trans f9 (fun _ _ e => e)); clear f9)
      go_ret
      exact ⟨rfl, HF9.out⟩
    · have h1z : ¬ ((100 : Int) < (L : Int)) := by omega
      have h2z : (4000 : Int) < (M : Int) := by omega
      clear hbig
      go_enter Tryd.func5, Tryd.ntmps5
      go_wp2_with (go_at_call 7; refine (HWK.out _ HF0.out).mono ?_; rintro e w9 ⟨rfl, f9⟩; have HF9 := Lib.hid (HF0.out.trans f9 (fun _ _ e => e)); clear f9)
      go_ret
      exact ⟨rfl, HF9.out⟩
  · have hL1 : ps.length ≤ 100 := by omega
    have hM1 : bs.length ≤ 4000 := by omega
    have HLI := Lib.hid (fun w' (f : Fr (fun _ => False) w0 w') => (h.fr hF0 (fun _ _ e => e)).fr f (fun _ _ e => e))
    have HBI := Lib.hid (fun w' (f : Fr (fun _ => False) w0 w') => (hb.fr hF0 (fun _ _ e => e)).fr f (fun _ _ e => e))
    have HO := Lib.hid hO
    have HMK := Lib.hid (IMake_any A cap ps of (by omega) hok w0 (h.fr hF0 (fun _ _ e => e)) (ht.fr hF0 (fun e => e)))
    have HOP := Lib.hid (fun (w' : World) (f : Fr (fun _ => False) w0 w') => IOpen_any B c bs hc (by omega) w' ((hb.fr hF0 (fun _ _ e => e)).fr f (fun _ _ e => e)) (ht.fr (hF0.trans f (fun _ _ e => e)) (fun e => e)))
    have HOM := Lib.hid (fun (w' : World) (f : Fr (fun _ => False) w0 w') A' c' (hc : (mkB ps of).length ≤ c') (hl : Lies w' A' (bytesV (mkB ps of))) (hs : (mkB ps of).length ≤ 100000) => IOpen_any A' c' (mkB ps of) hc hs w' hl (ht.fr (hF0.trans f (fun _ _ e => e)) (fun e => e)))
    have HMO := Lib.hid (fun hz => make_open (l := ps) (of := of) (by omega) hok hof hz)
    have HFM := Lib.hid (fun hz p (hp : p ∈ ps) => fnd_made (l := ps) (of := of) (by omega) hok hof hz hp)
    have HLB : Hid (mkE ps = 0 → (mkB ps of).length ≤ 100000) := Lib.hid (fun hz => by rw [mkB, if_pos hz, fileI_len, srtP_len]; omega)
    have HM2 := Lib.hid (fun w' (f : Fr (fun _ => False) w0 w') A' c' (ms : List Pl) (hm : ms.length ≤ 600) (hk : ∀ p ∈ ms, p.Ok) (of' : Nat) (hl : Lies w' A' (flatP ms)) => IMake_any A' c' ms of' hm hk w' hl (ht.fr (hF0.trans f (fun _ _ e => e)) (fun e => e)))
    have HSM := Lib.hid (fun w' A' c' B' d' (h1 : Lies w' A' (bytesV bs)) (h2 : Lies w' B' (bytesV bs)) => Same_any A' B' c' d' bs bs w' h1 h2)
    rw [show (bs == bs) = true from by simp] at HSM
    have HPM := Lib.hid (fun k (hk : k < ps.length) => (⟨some_pl hk, by rw [getElem!_pos ps k hk]; exact List.getElem_mem _⟩ : ps[k]? = some ps[k]! ∧ ps[k]! ∈ ps))
    have HOK := Lib.hid hok
    have HEQ := Lib.hid (fun (p : Pl) (hp : p.Ok) w => eq_pls p p hp.id hp.id w)
    have HE1 := Lib.hid (fun w => eq_nums of of hof hof w)
    unfold MkPost at HMK HM2
    unfold OpPost at HOP HOM
    have HOS := Lib.hid (idC_size (dgt of))
    have HOO := Lib.hid (idC_one (dgt of))
    obtain ⟨L, hL⟩ : ∃ L, ps.length = L := ⟨_, rfl⟩
    obtain ⟨M, hM⟩ : ∃ M, bs.length = M := ⟨_, rfl⟩
    obtain ⟨E, hE⟩ : ∃ E, mkE ps = E := ⟨_, rfl⟩
    obtain ⟨F, hF⟩ : ∃ F, mkB ps of = F := ⟨_, rfl⟩
    obtain ⟨N, hN⟩ : ∃ N, F.length = N := ⟨_, rfl⟩
    obtain ⟨co, hco⟩ : ∃ c, idC (dgt of) = c := ⟨_, rfl⟩
    have HLn := Lib.hid hL
    have HM := Lib.hid hM
    have HCO := Lib.hid hco
    rw [hE, hF] at HMK HMO HFM HLB
    rw [hF] at HOM
    rw [hN] at HMK HOM HLB
    rw [hM] at HOP HSM hM1 hc ⊢
    rw [hL] at HMK HMO HPM hL1 ⊢
    rw [hco] at hw0 HO HMK HE1 HOS HOO ⊢
    rw [show (of == of) = true from by simp] at HE1
    obtain ⟨T32, hT32⟩ : ∃ T : TypeId, T = 24 := ⟨_, rfl⟩
    obtain ⟨n32, hn32⟩ : ∃ n : Nat, n = 32 := ⟨_, rfl⟩
    have ag32 : ∀ w, (isAgg T32).run Tryd.prog w = .ok true w := by rw [hT32]; exact fun _ => by kernel_rfl
    have sz32 : ∀ w, (sizeOf T32).run Tryd.prog w = .ok n32 w := by rw [hT32, hn32]; exact fun _ => by kernel_rfl
    have HN32 := Lib.hid hn32
    obtain ⟨T34, hT34⟩ : ∃ T : TypeId, T = 49 := ⟨_, rfl⟩
    obtain ⟨n34, hn34⟩ : ∃ n : Nat, n = 34 := ⟨_, rfl⟩
    have ag34 : ∀ w, (isAgg T34).run Tryd.prog w = .ok true w := by rw [hT34]; exact fun _ => by kernel_rfl
    have sz34 : ∀ w, (sizeOf T34).run Tryd.prog w = .ok n34 w := by rw [hT34, hn34]; exact fun _ => by kernel_rfl
    have HN34 := Lib.hid hn34
    have LO : Hid (∀ w', Fr (fun _ => False) w0 w' → (loadCellsFrom ⟨w.heap.size, 0, none⟩ 0 n32 #[]).run Tryd.prog w' = .ok co w') := Lib.hid (fun w' f => load_wholeI (HO.out.fr f (fun e => e)) n32 (by rw [HN32.out, HOS.out]))
    have l0 := LO.out w0 (Fr.refl _ w0)
    have h1z : ¬ ((100 : Int) < (L : Int)) := by omega
    have h2z : ¬ ((4000 : Int) < (M : Int)) := by omega
    have HL1 := Lib.hid hL1
    clear hn32 hn34 hF0 hO hbig hL hM hE hF hN hco hL1 hM1 hok hof hc h hb ht
    go_enter Tryd.func5, Tryd.ntmps5
    rw [show Op.load 24 (.tmp 4) = Op.load T32 (.tmp 4) by rw [hT32], show Op.load 24 (.tmp 68) = Op.load T32 (.tmp 68) by rw [hT32], show Op.load 49 (.tmp 12) = Op.load T34 (.tmp 12) by rw [hT34], show Op.load 49 (.tmp 79) = Op.load T34 (.tmp 79) by rw [hT34]]
    clear hT32 hT34
    go_upto_region 4 with (go_at_call 8; refine HMK.out.mono ?_; rintro e w2 ⟨v, rfl, o2, f2⟩; obtain ⟨A2, c2, hv2, hk2, -⟩ := own_slice o2; subst hv2; have HL2 := Lib.hid (Lies.of_own o2); have HK2 := Lib.hid hk2; have HF2 := Lib.hid f2; clear o2 f2 hk2)
    clear l0
    go_upto_if 36 with fail
    go_cut [] (fun wc => Hid (Fr (fun _ => False) w0 wc))
    case first =>
      by_cases hz : E = 0
      · obtain ⟨n1, n2, n3, n4⟩ := HMO.out hz
        have HFD := HFM.out hz
        have HOQ := Lib.hid (HOM.out w2 HF2.out A2 c2 HK2.out HL2.out (HLB.out hz))
        have HN2 := Lib.hid n2
        have HPL := Lib.hid n4
        have HFI := Lib.hid (fun (w' : World) X A1 c1 A2 c2 A3 c3 (h' : IX w' X (nB F) A1 c1 A2 c2 A3 c3 (fanR (midB F)) (keyR (midB F)) (smR (midB F) (nB F)) (atR (midB F) (nB F)) (ofR (midB F) (nB F))) p (hp : p ∈ ps) => IFind_b F n2 p.id (HOK.out p hp).id X A1 A2 A3 c1 c2 c3 (ofR (midB F) (nB F)) w' h')
        have HFP := Lib.hid (fun p (hp : p ∈ ps) => HFD p hp)
        obtain ⟨fF, hfF⟩ : ∃ f, fanR (midB F) = f := ⟨_, rfl⟩
        obtain ⟨kF, hkF⟩ : ∃ f, keyR (midB F) = f := ⟨_, rfl⟩
        obtain ⟨sF, hsF⟩ : ∃ f, smR (midB F) (nB F) = f := ⟨_, rfl⟩
        obtain ⟨tF, htF⟩ : ∃ f, atR (midB F) (nB F) = f := ⟨_, rfl⟩
        rw [hfF, hkF, hsF, htF] at HOQ HFI
        rw [n1, n3] at HOQ HFI
        clear hfF hkF hsF htF n1 n2 n3 n4 HFD
        subst hz
        go_upto_region 6 with (go_at_call 12; refine HOQ.out.mono ?_; rintro e w3 ⟨f3, ⟨h0, -⟩ | ⟨-, X, g1, g2, g3, rfl, hx⟩⟩; exact absurd HN2.out h0; have HX3 := Lib.hid hx.ix; have HF3 := Lib.hid (HF2.out.trans f3 (fun _ _ e => e)); clear f3 hx)
        have HLq : Hid (∀ q : Later w3, Calls Tryd.prog 15 #[.pointer (some ⟨X, 0, none⟩)] q.w' fun e w' => e = .returned (.int .i64 L) ∧ q.w' = w') := Lib.hid (fun q => ILen_any _ _ _ _ _ _ _ _ _ _ _ _ _ q.w' (HX3.out.fr q.fr))
        have HOq : Hid (∀ q : Later w3, Calls Tryd.prog 16 #[.pointer (some ⟨X, 0, none⟩)] q.w' fun e w' => e = .returned (.agg co) ∧ Below q.w'.heap.size q.w' w') := Lib.hid (fun q => by
          have := IOf_any _ _ _ _ _ _ _ _ _ _ _ _ _ q.w' (HX3.out.fr q.fr)
          rw [HCO.out] at this
          exact this.mono (fun e w'' h => ⟨h.1, h.2.below (fun _ _ e => e)⟩))
        have l6 : ∀ q : Later w3, (loadCellsFrom ⟨w.heap.size, 0, none⟩ 0 n32 #[]).run Tryd.prog q.w' = .ok co q.w' := fun q => LO.out _ (HF3.out.trans q.fr (fun _ _ e => e))
        have he1 := HE1.out
        refine wp_region_later (w0 := w3) (Fr.refl _ _) (by kernel_rfl) (by kernel_rfl) ?_
        repeat (quiet_step (first | (go_at_call 15; refine Calls.later_of_same (HLq.out _)) | (go_at_call 16; refine Calls.later_of (HOq.out _))))
        refine wpQuiet_nil ?_
        intro _ hw'
        obtain ⟨q, hw''⟩ := hw'
        subst hw''
        have HX4 := Lib.hid (HX3.out.fr q.fr)
        have HF4 := Lib.hid (HF3.out.trans q.fr (fun _ _ e => e))
        obtain ⟨w4, hw4⟩ : ∃ w4, q.w' = w4 := ⟨_, rfl⟩
        rw [hw4] at HX4 HF4 ⊢
        clear hw4 l6 he1 q
        go_wp2_with fail
        go_loopg [11] L (fun kx i wr => ∃ m : Nat, i = .int .i64 m ∧ m ≤ L ∧ L - m ≤ kx ∧ Hid (Fr (fun _ => False) w4 wr))
        case atStart => exact ⟨0, rfl, by omega, by omega, Lib.hid (Fr.refl _ _)⟩
        case round =>
          obtain ⟨m, rfl, hm, hmx, hf⟩ := hrel
          obtain ⟨wo, rfl⟩ : ∃ wo, wo = wr := ⟨wr, rfl⟩
          have wm := wrap_nat m (by omega)
          by_cases hlt : m < L
          · have hltz : (m : Int) < L := by omega
            have HFo := Lib.hid (HF4.out.trans hf.out (fun _ _ e => e))
            have HFo2 := Lib.hid hf.out
            have HXo := Lib.hid (HX4.out.fr hf.out)
            obtain ⟨hg, hmem⟩ := HPM.out m hlt
            have hla := HLI.out wo HFo.out
            obtain ⟨b, o, hA⟩ := hla.someP (by rw [HLn.out]; omega)
            subst hA
            have l1 : (loadCellsFrom ⟨b, o + m * 34, none⟩ 0 n32 #[]).run Tryd.prog wo = .ok (idC (dgt (ps[m]!).id)) wo := load_plid hla hg (Fr.refl _ _) n32 HN32.out
            have HL34 := Lib.hid (fun w' (f : Fr (fun _ => False) wo w') => load_pl hla hg f n34 HN34.out)
            have hfi := HFI.out wo X _ _ _ _ _ _ HXo.out _ hmem
            obtain ⟨hp1, hp2⟩ := HFP.out _ hmem
            rw [hp1, hp2] at hfi
            have heq := HEQ.out _ (HOK.out _ hmem)
            rw [samP_self] at heq
            have HPS := Lib.hid (plC_size ps[m]!)
            have HPO := Lib.hid (plC_one ps[m]!)
            obtain ⟨ci, hci⟩ : ∃ c, idC (dgt (ps[m]!).id) = c := ⟨_, rfl⟩
            obtain ⟨pc, hpc⟩ : ∃ c, (ps[m]!).cells = c := ⟨_, rfl⟩
            rw [hci] at l1 hfi
            rw [hpc] at HL34 hfi heq HPS HPO
            have HFI2 := Lib.hid hfi
            clear hg hmem hla hfi hp1 hp2 hci hpc hf
            go_upto_region 12 with (first
              | (go_at_call 17
                 refine HFI2.out.mono ?_
                 rintro e w5 ⟨rfl, f5⟩
                 have HF5 := Lib.hid f5
                 clear f5
                 (
                   obtain ⟨wz, hwz⟩ : ∃ wz, w5.alloc (.cells zeroPl 49) = wz := ⟨_, rfl⟩
                   have HZ := Lib.hid (show Whole wz w5.heap.size 49 zeroPl from by subst hwz; exact Whole.new w5 49 zeroPl)
                   have HFz := Lib.hid (show Fr (fun _ => False) w5 wz from by subst hwz; exact (Fr.refl _ w5).alloc _)
                   unfold zeroPl at hwz
                   simp [List.replicate] at hwz))
              | (refine wpList_store_at rfl 49 _ _ rfl w5.heap.size 0 49 zeroPl pc rfl rfl HZ.out (by rw [HPS.out]; decide) (by rw [HPS.out]; exact size_pl) HPO.out ?_
                 intro w6 hw6 hf6
                 rw [laidAt_all _ _ (by rw [HPS.out]; rfl)] at hw6
                 have HW6 := Lib.hid hw6
                 have HF6 := Lib.hid (HF5.out.trans (HFz.out.trans hf6 (fun i hi e => by omega)) (fun _ _ e => e))
                 clear hw6 hf6))
            have l2 : ∀ q : Later w6, (loadCellsFrom ⟨w5.heap.size, 0, none⟩ 0 n34 #[]).run Tryd.prog q.w' = .ok pc q.w' := fun q => load_wholeI (HW6.out.fr q.fr (fun e => e)) n34 (by rw [HN34.out, HPS.out])
            have l3 : ∀ q : Later w6, (loadCellsFrom ⟨b, o + m * 34, none⟩ 0 n34 #[]).run Tryd.prog q.w' = .ok pc q.w' := fun q => HL34.out _ (HF6.out.trans q.fr (fun _ _ e => e))
            refine wp_region_later (w0 := w6) (Fr.refl _ _) (by kernel_rfl) (by kernel_rfl) ?_
            repeat (quiet_step (fail))
            refine wpQuiet_nil ?_
            intro _ hw'
            obtain ⟨q, hw''⟩ := hw'
            subst hw''
            go_wp2_with fail
            go_roundg (L - (m + 1))
            case measure => omega
            case rel => exact ⟨m + 1, by go_num, by omega, Nat.le_refl _, Lib.hid (HFo2.out.trans (HF6.out.trans q.fr (fun _ _ e => e)) (fun _ _ e => e))⟩
          · have hltz : ¬ ((m : Int) < L) := by omega
            go_wp2_with fail
            go_meet
            case rel => exact Lib.hid (HF4.out.trans hf.out (fun _ _ e => e))
      · have hz2 : (E == 0) = false := by simpa using hz
        go_wp2_with fail
        go_meet
        case rel => exact HF2
    case rest =>
      have HC := hcut
      clear hcut
      have HOC := Lib.hid (HOP.out wc HC.out)
      have hpn := fun w => ptr_nil w
      by_cases hz : opE bs = 0
      · obtain ⟨hm1, hm2⟩ := open_make hz
        have hn6 := (cnt_ok (opE_ok hz).1).2.2.1
        have HLP := Lib.hid (plsB_len bs)
        have HOKP := Lib.hid (plsB_ok bs)
        have HAT := Lib.hid (fun k (hk : k < nB bs) => (show atI (nB bs) (keyR (midB bs)) (smR (midB bs) (nB bs)) (atR (midB bs) (nB bs)) k = (plsB bs)[k]! from by
          rw [plsB_at bs k hk]
          unfold atI
          rw [if_pos ⟨by omega, by omega⟩]
          simp))
        have HTS := Lib.hid (fun k => u4_lt (midB bs) (1024 + 36 * nB bs + 4 * k))
        have HMB := Lib.hid (fun w' f A' c' hl => HM2.out w' f A' c' (plsB bs) (by rw [HLP.out]; exact hn6) HOKP.out (ofR (midB bs) (nB bs)) hl)
        rw [hm1, hm2] at HMB
        have HZ0 := Lib.hid hz
        obtain ⟨n, hn⟩ : ∃ n, nB bs = n := ⟨_, rfl⟩
        obtain ⟨fF, hfF⟩ : ∃ f, fanR (midB bs) = f := ⟨_, rfl⟩
        obtain ⟨kF, hkF⟩ : ∃ f, keyR (midB bs) = f := ⟨_, rfl⟩
        obtain ⟨sF, hsF⟩ : ∃ f, smR (midB bs) (nB bs) = f := ⟨_, rfl⟩
        obtain ⟨tF, htF⟩ : ∃ f, atR (midB bs) (nB bs) = f := ⟨_, rfl⟩
        obtain ⟨oF, hoF⟩ : ∃ f, ofR (midB bs) (nB bs) = f := ⟨_, rfl⟩
        obtain ⟨Ps, hPs⟩ : ∃ P, plsB bs = P := ⟨_, rfl⟩
        have HTT : Hid (∀ j, tF j < 4294967296) := Lib.hid (fun j => by rw [← htF]; exact HTS.out j)
        rw [hfF, hkF, hsF, htF, hoF, hz] at HOC
        rw [hkF, hsF, htF, hPs] at HAT
        rw [hoF, hPs] at HMB
        rw [hPs] at HLP HOKP
        rw [hn] at hn6 HLP HAT HOC
        rw [HLP.out] at HMB
        rw [HM.out] at HMB
        have HPM2 := Lib.hid (fun k (hk : k < n) => (⟨some_pl (by rw [HLP.out]; exact hk), by rw [List.take_add_one, some_pl (by rw [HLP.out]; exact hk)]; rfl⟩ : Ps[k]? = some Ps[k]! ∧ Ps.take (k + 1) = Ps.take k ++ [Ps[k]!]))
        clear hz hm1 hm2 hn hfF hkF hsF htF hoF hPs HTS
        obtain ⟨i0, hi, hz0, hz1, hz2⟩ := info_parts infoPls
        go_upto_region 15 with (go_at_call 12; refine HOC.out.mono ?_; rintro e w3 ⟨f3, ⟨h0, -⟩ | ⟨-, X, g1, g2, g3, rfl, hx⟩⟩; exact absurd rfl h0; have HX3 := Lib.hid hx.ix; have HF3 := Lib.hid (HC.out.trans f3 (fun _ _ e => e)); clear f3 hx)
        go_wp2_with fail
        go_loopg [16, 17] n (fun kx v i wr => ∃ (k : Nat) (A' : Option Addr) (c' : Nat), v = .slice A' k c' ∧ i = .int .i64 k ∧ k ≤ n ∧ n - k ≤ kx ∧ Hid (OwnP w3 wr (.slice A' k c') (Ps.take k)))
        case atStart => exact ⟨0, none, 0, rfl, rfl, by omega, by omega, Lib.hid (OwnP.nil (Fr.refl _ _))⟩
        case round =>
          obtain ⟨k, A', c', rfl, rfl, hk, hkx, HOW⟩ := hrel
          obtain ⟨wo, rfl⟩ : ∃ wo, wo = wr := ⟨wr, rfl⟩
          have wk := wrap_nat k (by omega)
          have HXo := Lib.hid (HX3.out.fr HOW.out.2)
          have HFo := Lib.hid (HF3.out.trans HOW.out.2 (fun _ _ e => e))
          have HLo := Lib.hid (ILen_any _ _ _ _ _ _ _ _ _ _ _ _ _ wo HXo.out)
          by_cases hlt : k < n
          · have hltz : (k : Int) < n := by omega
            have hia := IAt_any _ _ _ _ _ _ _ _ _ _ _ _ _ k (by omega) (fun j _ => HTT.out j) wo HXo.out
            rw [HAT.out k hlt] at hia
            obtain ⟨hp1, hp2⟩ := HPM2.out k hlt
            obtain ⟨p, hp⟩ : ∃ p, Ps[k]! = p := ⟨_, rfl⟩
            rw [hp] at hia hp2
            have HBO := Lib.hid (fun w => build_onep p w)
            obtain ⟨pc, hpc⟩ : ∃ c, p.cells = c := ⟨_, rfl⟩
            rw [hpc] at hia HBO
            have HIA := Lib.hid hia
            have HTK := Lib.hid hp2
            have HPC := Lib.hid hpc
            have HTL : Hid (k = (Ps.take k).length) := Lib.hid (by rw [List.length_take, HLP.out]; omega)
            clear hia hp1 hp2 hp hpc
            go_wp2_with (first
              | (go_at_call 15; refine HLo.out.mono ?_; rintro e w7 ⟨rfl, rfl⟩)
              | (go_at_call 18; refine HIA.out.mono ?_; rintro e w4 ⟨rfl, f4⟩; have HF4 := Lib.hid f4; clear f4)
              | (refine wpList_buildSlice_toI rfl 22 1 _ rfl #[(0, .agg pc)] (by simp [Act.eval, Act.put]) _ _ (HBO.out _) ?_)
              | (at_builtin; refine wpList_append_row _ rfl (.tmp 101) (.tmp 105) 22 22 rfl w3.heap.size 49 i0 (.agg zeroPl) 34 48 Tryd.underlying22 hi hz0 hz1 hz2 rfl (.slice A' k c') k (flatP (Ps.take k)) rfl (by have := ((HOW.out.fr HF4.out).fr ((Fr.refl (fun _ => False) w4).alloc (.cells pc 49))).1; rw [← HTL.out] at this; exact this) (.slice (some ⟨w4.heap.size, 0, none⟩) 1 1) 1 (flatP [p]) rfl (src_onep w4 p pc HPC.out) (by unfold maxLen; omega) (by omega) (by have := (HOW.out.2.trans HF4.out (fun _ _ e => e)).size; simp; omega) ?_
                 intro v5 w5 o5 g5 a5
                 have HO5 := Lib.hid (((HOW.out.fr HF4.out).fr ((Fr.refl (fun _ => False) w4).alloc (.cells pc 49))).grow (ks := Ps.take k ++ [p]) rfl HTL.out rfl o5 g5)
                 obtain ⟨A5, c5, hv5, -⟩ := own_slice o5
                 subst hv5
                 clear o5 g5 a5))
            go_roundg (n - (k + 1))
            case measure => omega
            case rel => exact ⟨k + 1, A5, c5, rfl, by go_num, by omega, Nat.le_refl _, Lib.hid (by rw [HTK.out]; exact HO5.out)⟩
          · have hltz : ¬ ((k : Int) < n) := by omega
            obtain rfl : n = k := by omega
            have hlp := HOW.out.lies
            rw [List.take_of_length_le (by rw [HLP.out]; exact Nat.le_refl _)] at hlp
            have HLL := Lib.hid hlp
            clear hlp
            have HOFo := IOf_any _ _ _ _ _ _ _ _ _ _ _ _ _ wo HXo.out
            obtain ⟨cf, hcf⟩ : ∃ c, idC (dgt oF) = c := ⟨_, rfl⟩
            rw [hcf] at HOFo HMB
            have HOFh := Lib.hid HOFo
            clear hcf HOFo
            go_upto_region 22 with (go_at_call 15; refine HLo.out.mono ?_; rintro e w7 ⟨rfl, rfl⟩)
            go_upto_region 23 with (first
              | (go_at_call 8; refine (HMB.out _ HF8.out _ _ (HLL.out.fr Hf8.out (fun _ _ e => e))).mono ?_; rintro e w9 ⟨v9, rfl, o9, f9⟩; obtain ⟨A9, c9, hv9, -, -⟩ := own_slice o9; subst hv9; have HL9 := Lib.hid (Lies.of_own o9); have HF9 := Lib.hid (HF8.out.trans f9 (fun _ _ e => e)); clear o9 f9)
              | (go_at_call 16; refine HOFh.out.mono ?_; rintro e w8 ⟨rfl, f8⟩; have Hf8 := Lib.hid f8; have HF8 := Lib.hid (HFo.out.trans f8 (fun _ _ e => e)); clear f8))
            go_wp2_with (first
              | (go_at_call 11; refine (HSM.out w9 _ _ _ _ HL9.out (HBI.out w9 HF9.out)).mono ?_; rintro e w10 ⟨rfl, rfl⟩)
              | (go_at_call 7; refine (HWK.out _ (HF0.out.trans HF9.out (fun _ _ e => e))).mono ?_; rintro e w11 ⟨rfl, f11⟩; have HF11 := Lib.hid ((HF0.out.trans HF9.out (fun _ _ e => e)).trans f11 (fun _ _ e => e)); clear f11))
            go_ret
            exact ⟨rfl, HF11.out⟩
      · obtain ⟨EB, hEB⟩ : ∃ e, opE bs = e := ⟨_, rfl⟩
        rw [hEB] at HOC hz
        have HZE := Lib.hid hz
        have hz2 : (EB == 0) = false := by simpa using hz
        clear hEB
        go_upto_region 15 with (go_at_call 12; refine HOC.out.mono ?_; rintro e w3 ⟨f3, ⟨-, rfl⟩ | ⟨h0, -⟩⟩; rotate_left; exact absurd h0 HZE.out; have HF3 := Lib.hid (HC.out.trans f3 (fun _ _ e => e)); clear f3)
        go_wp2_with (go_at_call 7; refine (HWK.out _ (HF0.out.trans HF3.out (fun _ _ e => e))).mono ?_; rintro e w11 ⟨rfl, f11⟩; have HF11 := Lib.hid ((HF0.out.trans HF3.out (fun _ _ e => e)).trans f11 (fun _ _ e => e)); clear f11)
        go_ret
        exact ⟨rfl, HF11.out⟩
end Go.Proofs.YtgbhdjncccmabaaDoor

/- What is proved: texts that stand one behind the other: Dpb. Conditions: each theorem names its own. -/
import Derived.Test.YtkaeoflgnnlbeaaGreatDoorQDed
import Derived.Test.YtkaeoflgnnlbeaaGreatDoorQDpa
/- What is proved: what the walks of this seat need of layers below, merged out of the texts Dpb (of each just what is needed). Conditions: each theorem names its own. -/
/- What is proved: Apply of the document. Conditions: the base's bytes and the ops' cells are there. -/
namespace Go.Proofs.YtkaeoflgnnlbeaaGreatDoor
open Go.RowKit
set_option linter.unusedVariables false
set_option maxHeartbeats 6400000 in
set_option maxRecDepth 100000 in
theorem QDApply_any (A : Option Addr) (c : Nat) (xs : List UInt8) (hc : xs.length ≤ c) (hcc : c ≤ 9223372036854775807) (b t : Int) (S : Option Addr) (d : Nat) (ps : List POp) (w : World) (ha : Lies w A (bytesV xs)) (h : Scr w S d ps) :
    Calls Tryz.prog 38 #[.slice A xs.length c, .agg #[.int .i64 b, .int .i64 t, .slice S ps.length d]] w fun e w' => ∃ v, e = .returned (.tuple #[v, .int .i64 (appR xs b t (opsO ps)).2]) ∧ w'.ownsRow w.heap.size 5 1 v (appR xs b t (opsO ps)).1.length (bytesV (appR xs b t (opsO ps)).1) ∧ Below w.heap.size w w' := by
  obtain ⟨w1, hw1⟩ : ∃ w1, w.alloc (.cells #[.int .i64 b, .int .i64 t, .slice S ps.length d] 94) = w1 := ⟨_, rfl⟩
  have HS : Hid (SAt w1 w.heap.size 94 b t (.slice S ps.length d)) := Lib.hid (by subst hw1; exact SAt.new w 94 b t _)
  have HF1 : Hid (Fr (fun _ => False) w w1) := Lib.hid (by subst hw1; exact (Fr.refl _ _).alloc _)
  have HSc := Lib.hid (h.fr HF1.out)
  have HA := Lib.hid (ha.fr HF1.out (fun _ _ e => e))
  obtain ⟨c0, c1, c2⟩ := HS.out.cells
  have HCh := Lib.hid (QDCheck_any b t S d ps w1 HSc.out)
  have HR : Hid (appR xs b t (opsO ps) = if chkS b t (opsO ps) = 0 then (if (xs.length : Int) = b then ((opsO ps).flatMap (appO xs), 0) else ([], 21)) else ([], 2)) := Lib.hid rfl
  obtain ⟨R, hR⟩ : ∃ R, appR xs b t (opsO ps) = R := ⟨_, rfl⟩
  rw [hR] at HR ⊢
  obtain ⟨L, hL⟩ : ∃ L, ps.length = L := ⟨_, rfl⟩
  have HL := Lib.hid hL
  obtain ⟨X, hX⟩ : ∃ X, xs.length = X := ⟨_, rfl⟩
  have HX := Lib.hid hX
  rw [hL] at c2 hw1 HS HCh ⊢
  rw [hX] at hc HR ⊢
  rcases chkS_two b t (opsO ps) with hck | hck
  · obtain ⟨⟨hb0, hb1⟩, ⟨ht0, ht1⟩, hrest⟩ := chkS_ok hck
    rw [hck] at HCh HR
    by_cases hXb : (X : Int) = b
    · have HRe : Hid (R = ((opsO ps).flatMap (appO xs), 0)) := Lib.hid (by rw [HR.out, if_pos rfl, if_pos hXb])
      subst hXb
      obtain ⟨hall, hlen⟩ := restO_all hrest
      have hlen' : L ≤ 4000 := by simp [opsO] at hlen; omega
      have HAll : Hid (∀ p ∈ ps, p.o.Right X ∧ (0 ≤ p.o.frm ∧ p.o.frm ≤ 4000) ∧ (0 ≤ p.o.n ∧ p.o.n ≤ 4000) ∧ p.o.b.length ≤ 4000) := Lib.hid (fun p hp => by
        have h1 := hall p.o (by simp only [opsO, List.mem_map]; exact ⟨p, hp, rfl⟩)
        have := Right_nums h1.1 hb1 (by omega)
        exact ⟨h1.1, ⟨this.1, this.2.1⟩, ⟨this.2.2.1, this.2.2.2.1⟩, this.2.2.2.2⟩)
      have HTl : Hid (∀ k, (((opsO ps).take k).flatMap (appO xs)).length ≤ 4000) := Lib.hid (fun k => by
        rw [← hX] at hrest
        have h1 := restO_app hrest
        have h2 := flat_take_le xs (opsO ps) k
        omega)
      obtain ⟨tn, rfl⟩ := Int.eq_ofNat_of_zero_le ht0
      obtain ⟨i0, hi, hz0, hz1, hz2⟩ := info_parts info_u8
      clear hck hrest hall hlen hR hL hX h ha
      go_enter Tryz.func38, Tryz.ntmps38
      go_upto_region 6 with (go_at_call 63; refine HCh.out.mono ?_; rintro e w2 ⟨rfl, b2⟩
                             have HF2 := Lib.hid (Fr.of_below (S := fun _ => False) b2)
                             obtain ⟨x0, x1, x2⟩ := (HS.out.fr HF2.out).cells
                             clear b2)
      clear x0 x1 x2 c0 c1 c2
      go_wp2_with fail
      go_loopw [7, 8] (fun u i wr => ∃ (k N : Nat) (v : Value), u = v ∧ k ≤ L ∧ i = .int .i64 k ∧ Hid ((((opsO ps).take k).flatMap (appO xs)).length = N) ∧ Hid (wr.ownsRow w1.heap.size 5 1 v N (bytesV (((opsO ps).take k).flatMap (appO xs)))) ∧ Hid (Fr (fun _ => False) w1 wr)) (fun _ i _ => L - (intOf i).toNat)
      case atStart => exact ⟨0, 0, _, rfl, by omega, rfl, Lib.hid rfl, Lib.hid (World.ownsRow_nil _ _ _ _), HF2⟩
      case round =>
        obtain ⟨k, N, v, rfl, hk, rfl, HN, HO, HF⟩ := hrel
        obtain ⟨Av, cv, hv, -, -⟩ := own_slice HO.out
        subst hv
        have hk1 : (0 : Int) ≤ k := by omega
        obtain ⟨s0, s1, s2⟩ := (HS.out.fr HF.out).cells
        by_cases hlt : k < L
        · have hk2 : (k : Int) < L := by omega
          obtain ⟨p, hp⟩ : ∃ p, ps[k]? = some p := ⟨ps[k]'(by rw [HL.out]; exact hlt), List.getElem?_eq_getElem (by rw [HL.out]; exact hlt)⟩
          obtain ⟨ab, ao, rfl⟩ := HSc.out.addr (k := k) (by rw [HL.out]; exact hlt)
          have hScr := HSc.out.fr HF.out
          obtain ⟨d0, d1, d2, d3⟩ := hScr.cells hp
          have HOk := Lib.hid (hScr.at_ok hp)
          obtain ⟨n0, ⟨n1, n2⟩, ⟨n3, n4⟩, n5⟩ := HAll.out p (List.mem_of_getElem? hp)
          have HTk1 := Lib.hid (show ((opsO ps).take (k + 1)).flatMap (appO xs) = ((opsO ps).take k).flatMap (appO xs) ++ appO xs p.o from by
            have hk' : k < (opsO ps).length := by simp [opsO]; have := (List.getElem?_eq_some_iff.1 hp).1; exact this
            rw [List.take_succ_eq_append_getElem hk', List.flatMap_append]
            have : (opsO ps)[k] = p.o := by
              have := (List.getElem?_eq_some_iff.1 hp).2
              simp [opsO, this]
            rw [this]
            simp)
          have hT1 := HTl.out (k + 1)
          rw [HTk1.out, List.length_append, HN.out] at hT1
          clear hp hScr
          obtain ⟨o, B, pc⟩ := p
          simp only at d0 d1 d2 d3 n0 n1 n2 n3 n4 n5 hT1
          (
            obtain ⟨w3, hbx⟩ : ∃ xw, (wr).alloc (.cells #[.bool o.copy, .int .i64 o.frm, .int .i64 o.n, .slice B o.b.length pc] 142) = xw := ⟨_, rfl⟩
            have HOw3 := Lib.hid (show OpAt w3 (wr).heap.size 142 o B pc from by subst hbx; exact OpAt.new _ _ _ _ _)
            have HFw3 := Lib.hid (show Fr (fun _ => False) wr w3 from by subst hbx; exact (Fr.refl _ _).alloc _))
          obtain ⟨f0, f1, f2, f3⟩ := HOw3.out.cells
          have HO3 := Lib.hid (own_fr HO.out HFw3.out (fun _ _ e => e))
          have HF3 := Lib.hid (HF.out.trans HFw3.out (fun _ _ e => e))
          have HBs := Lib.hid HF3.out.size
          have HBy := Lib.hid (HOk.out.lies.fr HFw3.out (fun _ _ e => e))
          have HA3 := Lib.hid (HA.out.fr HF3.out (fun _ _ e => e))
          obtain ⟨cp, f, n, bs⟩ := o
          simp only at d0 d1 d2 d3 f0 f1 f2 f3 n0 n1 n2 n3 n4 n5 hbx HBy hT1
          have HRt := Lib.hid n0
          cases cp
          · have ha : appO xs ⟨false, f, n, bs⟩ = bs := rfl
            rw [ha] at hT1
            have hsrc := HBy.out.src Tryz.underlying25 (bytesV_one bs) pc
            rw [bytesV_length] at hsrc
            obtain ⟨BL, hBL⟩ : ∃ BL, bs.length = BL := ⟨_, rfl⟩
            have HBL := Lib.hid hBL
            rw [hBL] at hsrc hT1
            simp only [hBL] at d3 f3 hbx
            have HSr := Lib.hid hsrc
            clear hsrc hBL ha n0 n5
            go_wp2_with (at_builtin; refine wpList_append_row _ rfl (.tmp 45) (.tmp 47) 25 25 rfl w1.heap.size 5 i0 (.int .u8 0) 1 1 Tryz.underlying25 hi hz0 hz1 hz2 rfl _ N _ rfl HO3.out _ BL _ rfl HSr.out (by unfold maxLen; omega) (by omega) HBs.out ?_
                         intro v6 w6 o6 g6 at6
                         have HO6 := Lib.hid o6
                         have HF6 := Lib.hid (show Fr (fun _ => False) w1 w6 from fr_append HO3.out HF3.out g6)
                         clear o6 g6 at6)
            go_roundw
            case rel => exact ⟨k + 1, N + BL, v6, rfl, by omega, by go_num, Lib.hid (by rw [HTk1.out, List.length_append, HN.out]; exact congrArg (N + ·) HBL.out), Lib.hid (by rw [HTk1.out, bytesV_append]; exact HO6.out), HF6⟩
            case measure => simp [intOf]; omega
          · obtain ⟨fn, rfl⟩ := Int.eq_ofNat_of_zero_le n1
            obtain ⟨nn, rfl⟩ := Int.eq_ofNat_of_zero_le n3
            have hr : (fn : Int) ≤ (X : Int) - nn := by
              rcases HRt.out with ⟨_, _, _, h4, _⟩ | ⟨h0, _⟩
              · exact h4
              · cases h0
            have ha : appO xs ⟨true, fn, nn, bs⟩ = (xs.drop fn).take nn := rfl
            have hal : ((xs.drop fn).take nn).length = nn := by rw [List.length_take, List.length_drop, HX.out]; omega
            rw [ha, hal] at hT1
            have hsl : ∀ w, (Instr.slice 25 (.slice A X c) (some (.int .i64 fn)) (some (.int .i64 ((fn : Int) + nn))) none).run Tryz.prog w = .ok (.slice (tlB A c fn) nn (c - fn)) w := fun w => by
              have := slice_lhB A X c fn (fn + nn) (by omega) (by omega) w
              rw [show fn + nn - fn = nn by omega] at this
              rw [← this]; push_cast; rfl
            have hsrc := (HA3.out.cutB c fn nn (by rw [HX.out]; exact hc)).src Tryz.underlying25 (bytesV_one _) (c - fn)
            rw [bytesV_length, hal] at hsrc
            have HSr := Lib.hid hsrc
            have HAl := Lib.hid (And.intro ha hal)
            obtain ⟨TA, hTA⟩ : ∃ TA, tlB A c fn = TA := ⟨_, rfl⟩
            obtain ⟨C2, hC2⟩ : ∃ C2, c - fn = C2 := ⟨_, rfl⟩
            rw [hTA, hC2] at hsl HSr
            clear hsrc ha hal n0 n5 hTA hC2
            go_wp2_with (at_builtin; refine wpList_append_row _ rfl (.tmp 34) (.tmp 43) 25 25 rfl w1.heap.size 5 i0 (.int .u8 0) 1 1 Tryz.underlying25 hi hz0 hz1 hz2 rfl _ N _ rfl HO3.out _ nn _ rfl HSr.out (by unfold maxLen; omega) (by omega) HBs.out ?_
                         intro v6 w6 o6 g6 at6
                         have HO6 := Lib.hid o6
                         have HF6 := Lib.hid (show Fr (fun _ => False) w1 w6 from fr_append HO3.out HF3.out g6)
                         clear o6 g6 at6)
            go_roundw
            case rel => exact ⟨k + 1, N + nn, v6, rfl, by omega, by go_num, Lib.hid (by rw [HTk1.out, List.length_append, HN.out, HAl.out.1, HAl.out.2]), Lib.hid (by rw [HTk1.out, bytesV_append, HAl.out.1]; exact HO6.out), HF6⟩
            case measure => simp [intOf]; omega
        · obtain rfl : k = L := by omega
          have htk : (opsO ps).take k = opsO ps := List.take_of_length_le (by simp [opsO, HL.out])
          rw [htk] at HN HO
          go_wp2_with fail
          go_ret2
          refine ⟨.slice Av N cv, ?_, ?_, (HF1.out.trans HF.out (fun _ _ e => e)).below (fun _ _ e => e)⟩
          · rw [HRe.out]; rfl
          · rw [HRe.out]; simp only [HN.out]; exact own_lower HO.out HF1.out.size
    · have HRe : Hid (R = ([], 21)) := Lib.hid (by rw [HR.out, if_pos rfl, if_neg hXb])
      have hne : ((X : Int) != b) = true := by simpa using hXb
      clear hck hrest hR hL hX h ha
      go_enter Tryz.func38, Tryz.ntmps38
      go_wp2_with (go_at_call 63; refine HCh.out.mono ?_; rintro e w2 ⟨rfl, b2⟩; have HF2 := Lib.hid (Fr.of_below (S := fun _ => False) b2); obtain ⟨x0, x1, x2⟩ := (HS.out.fr HF2.out).cells; clear b2)
      go_ret2
      refine ⟨.slice none 0 0, ?_, ?_, (HF1.out.trans HF2.out (fun _ _ e => e)).below (fun _ _ e => e)⟩
      · rw [HRe.out]; rfl
      · rw [HRe.out]; exact World.ownsRow_nil _ _ _ _
  · have HRe : Hid (R = ([], 2)) := Lib.hid (by rw [HR.out, if_neg (by rw [hck]; decide)])
    rw [hck] at HCh
    clear hck hR hL hX h ha
    go_enter Tryz.func38, Tryz.ntmps38
    go_wp2_with (go_at_call 63; refine HCh.out.mono ?_; rintro e w2 ⟨rfl, b2⟩; have HF2 := Lib.hid (Fr.of_below (S := fun _ => False) b2); clear b2)
    go_ret2
    refine ⟨.slice none 0 0, ?_, ?_, (HF1.out.trans HF2.out (fun _ _ e => e)).below (fun _ _ e => e)⟩
    · rw [HRe.out]; rfl
    · rw [HRe.out]; exact World.ownsRow_nil _ _ _ _
end Go.Proofs.YtkaeoflgnnlbeaaGreatDoor

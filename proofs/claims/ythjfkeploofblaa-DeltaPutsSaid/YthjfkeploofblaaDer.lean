/- What is proved: Put of the document. Conditions: the ops' cells are there. -/
import Derived.Test.YthjfkeploofblaaDeq
import Derived.Deep.DeepCutAuto
import Derived.Deep.CutBlock
import Derived.Test.YthjfkeploofblaaDef
namespace Go.Proofs.Ythjfkeploofblaa
open Go.RowKit
set_option linter.unusedVariables false

/-- Bytes of a call's own making: where, and how many. -/
def MadeN (w : World) (xs : List UInt8) (N : Nat) (e : Ending) (w' : World) : Prop := ∃ A c, e = .returned (.slice A N c) ∧ N ≤ c ∧ c ≤ 9223372036854775807 ∧ Lies w' A (bytesV xs) ∧ Below w.heap.size w w'
theorem OwnPost.made {w : World} {xs : List UInt8} {N : Nat} (hN : xs.length = N) {e : Ending} {w' : World} (h : OwnPost w xs e w') : MadeN w xs N e w' := by
  obtain ⟨v, rfl, ho, hb⟩ := h
  rw [hN] at ho
  obtain ⟨A, c, rfl, h1, h2⟩ := own_slice ho
  exact ⟨A, c, rfl, h1, h2, Lies.of_own ho, hb⟩
theorem lies_byte1 (w : World) (c : UInt8) : Lies (w.alloc (.cells #[.int .u8 c.toNat] 5)) (some ⟨w.heap.size, 0, none⟩) (bytesV [c]) :=
  .inr ⟨w.heap.size, 0, rfl, fun j u hu => by rw [Nat.zero_add, (Whole.new w 5 _).cell]; simpa [bytesV, byteV] using hu⟩
theorem lies_b1 (w : World) : Lies (w.alloc (.cells #[.int .u8 1] 5)) (some ⟨w.heap.size, 0, none⟩) (bytesV [1]) := lies_byte1 w 1
theorem lies_b0 (w : World) : Lies (w.alloc (.cells #[.int .u8 0] 5)) (some ⟨w.heap.size, 0, none⟩) (bytesV [0]) := lies_byte1 w 0
theorem parts2 (w : World) (p q : List UInt8) (A B : Option Addr) (c d N M : Nat) (hp : p.length = N) (hq : q.length = M) (h1 : N ≤ c) (h2 : M ≤ d) (ha : Lies w A (bytesV p)) (hb : Lies w B (bytesV q)) :
    Parts (w.alloc (.cells #[.slice A N c, .slice B M d] 26)) (some ⟨w.heap.size, 0, none⟩) [p, q] := by
  subst hp; subst hq
  exact parts_build w [⟨p, A, c⟩, ⟨q, B, d⟩] (fun x hx => by
    simp only [List.mem_cons, List.not_mem_nil, or_false] at hx
    rcases hx with rfl | rfl
    · exact ⟨h1, ha⟩
    · exact ⟨h2, hb⟩)
theorem parts3 (w : World) (p q r : List UInt8) (A B C : Option Addr) (c d e N M K : Nat) (hp : p.length = N) (hq : q.length = M) (hr : r.length = K) (h1 : N ≤ c) (h2 : M ≤ d) (h3 : K ≤ e) (ha : Lies w A (bytesV p)) (hb : Lies w B (bytesV q)) (hc : Lies w C (bytesV r)) :
    Parts (w.alloc (.cells #[.slice A N c, .slice B M d, .slice C K e] 26)) (some ⟨w.heap.size, 0, none⟩) [p, q, r] := by
  subst hp; subst hq; subst hr
  exact parts_build w [⟨p, A, c⟩, ⟨q, B, d⟩, ⟨r, C, e⟩] (fun x hx => by
    simp only [List.mem_cons, List.not_mem_nil, or_false] at hx
    rcases hx with rfl | rfl | rfl
    · exact ⟨h1, ha⟩
    · exact ⟨h2, hb⟩
    · exact ⟨h3, hc⟩)
theorem parts4 (w : World) (p q r s : List UInt8) (A B C D : Option Addr) (c d e f N M K L : Nat) (hp : p.length = N) (hq : q.length = M) (hr : r.length = K) (hs : s.length = L) (h1 : N ≤ c) (h2 : M ≤ d) (h3 : K ≤ e) (h4 : L ≤ f) (ha : Lies w A (bytesV p)) (hb : Lies w B (bytesV q)) (hc : Lies w C (bytesV r)) (hd : Lies w D (bytesV s)) :
    Parts (w.alloc (.cells #[.slice A N c, .slice B M d, .slice C K e, .slice D L f] 26)) (some ⟨w.heap.size, 0, none⟩) [p, q, r, s] := by
  subst hp; subst hq; subst hr; subst hs
  exact parts_build w [⟨p, A, c⟩, ⟨q, B, d⟩, ⟨r, C, e⟩, ⟨s, D, f⟩] (fun x hx => by
    simp only [List.mem_cons, List.not_mem_nil, or_false] at hx
    rcases hx with rfl | rfl | rfl | rfl
    · exact ⟨h1, ha⟩
    · exact ⟨h2, hb⟩
    · exact ⟨h3, hc⟩
    · exact ⟨h4, hd⟩)
theorem putO_copy (o : DOp) (h : o.copy = true) : putO o = [1] ++ varB o.frm.toNat ++ varB o.n.toNat := by unfold putO; rw [if_pos h]
theorem putO_new (o : DOp) (h : o.copy = false) : putO o = [0] ++ textB o.b := by unfold putO; rw [if_neg (by simp [h])]; simp [textB]

set_option maxHeartbeats 12800000 in
set_option maxRecDepth 100000 in
theorem QDPut_any (b t : Int) (A : Option Addr) (c : Nat) (ps : List POp) (w : World) (h : Scr w A c ps) :
    Calls Try.prog 11 #[.agg #[.int .i64 b, .int .i64 t, .slice A ps.length c]] w (PutPost w (putR b t (opsO ps))) := by
  obtain ⟨w1, hw1⟩ : ∃ w1, w.alloc (.cells #[.int .i64 b, .int .i64 t, .slice A ps.length c] 34) = w1 := ⟨_, rfl⟩
  have HS : Hid (SAt w1 w.heap.size 34 b t (.slice A ps.length c)) := Lib.hid (by subst hw1; exact SAt.new w 34 b t _)
  have HF1 : Hid (Fr (fun _ => False) w w1) := Lib.hid (by subst hw1; exact (Fr.refl _ _).alloc _)
  have HSc := Lib.hid h
  obtain ⟨c0, c1, c2⟩ := HS.out.cells
  have HCh := Lib.hid (QDCheck_any b t A c ps w1 (h.fr HF1.out))
  have HR : Hid (putR b t (opsO ps) = if chkS b t (opsO ps) = 0 then (putS b t (opsO ps), 0) else ([], 2)) := Lib.hid rfl
  obtain ⟨R, hR⟩ : ∃ R, putR b t (opsO ps) = R := ⟨_, rfl⟩
  rw [hR] at HR ⊢
  obtain ⟨L, hL⟩ : ∃ L, ps.length = L := ⟨_, rfl⟩
  have HL := Lib.hid hL
  rw [hL] at c2 hw1 HS HCh ⊢
  rcases chkS_two b t (opsO ps) with hck | hck
  · obtain ⟨⟨hb0, hb1⟩, ⟨ht0, ht1⟩, hrest⟩ := chkS_ok hck
    obtain ⟨hall, hlen⟩ := restO_all hrest
    rw [hck] at HCh HR
    have HRe : Hid (R = (putS b t (opsO ps), 0)) := Lib.hid (by rw [HR.out, if_pos rfl])
    have hlen' : L ≤ 4000 := by simp [opsO] at hlen; omega
    have HAll : Hid (∀ p ∈ ps, (0 ≤ p.o.frm ∧ p.o.frm ≤ 4000) ∧ (0 ≤ p.o.n ∧ p.o.n ≤ 4000) ∧ p.o.b.length ≤ 4000) := Lib.hid (fun p hp => by
      have h1 := hall p.o (by simp only [opsO, List.mem_map]; exact ⟨p, hp, rfl⟩)
      have := Right_nums h1.1 hb1 (by omega)
      exact ⟨⟨this.1, this.2.1⟩, ⟨this.2.2.1, this.2.2.2.1⟩, this.2.2.2.2⟩)
    have HTk : Hid (∀ k, ((opsO (ps.take k)).flatMap putO).length ≤ 4000 * 4021) := Lib.hid (fun k => by
      have := putOs_len (opsO (ps.take k)) (fun o ho => by
        simp only [opsO, List.mem_map] at ho
        obtain ⟨p, hp, rfl⟩ := ho
        exact (HAll.out p (List.mem_of_mem_take hp)).2.2)
      have h2 : (opsO (ps.take k)).length ≤ 4000 := by simp [opsO]; omega
      calc _ ≤ _ := this
        _ ≤ 4000 * 4021 := Nat.mul_le_mul_right _ h2)
    have hv1 := (varB_length b.toNat).2
    have hv2 := (varB_length t.toNat).2
    obtain ⟨x1, hx1⟩ : ∃ x1, varB b.toNat = x1 := ⟨_, rfl⟩
    obtain ⟨x2, hx2⟩ : ∃ x2, varB t.toNat = x2 := ⟨_, rfl⟩
    obtain ⟨N1, hN1⟩ : ∃ N1, x1.length = N1 := ⟨_, rfl⟩
    obtain ⟨N2, hN2⟩ : ∃ N2, x2.length = N2 := ⟨_, rfl⟩
    have HV1 := Lib.hid (fun w => (refVar_any b w hb0 (by omega)).mono (fun e w' h => OwnPost.made (show (varB b.toNat).length = N1 by rw [hx1, hN1]) h))
    have HV2 := Lib.hid (fun w => (refVar_any t w ht0 (by omega)).mono (fun e w' h => OwnPost.made (show (varB t.toNat).length = N2 by rw [hx2, hN2]) h))
    rw [hx1] at HV1 hv1
    rw [hx2] at HV2 hv2
    rw [hN1] at hv1
    rw [hN2] at hv2
    have HN := Lib.hid (And.intro hN1 hN2)
    have HRe2 : Hid (R = (x1 ++ x2 ++ (opsO ps).flatMap putO, 0)) := Lib.hid (by rw [HRe.out, putS, hx1, hx2])
    have hwb : IntKind.u64.wrap b = b := by rw [IntKind.wrap_u64]; omega
    have hwt : IntKind.u64.wrap t = t := by rw [IntKind.wrap_u64]; omega
    clear hck hrest hall hlen hR hL h hx1 hx2 hN1 hN2
    go_enter Try.func11, Try.ntmps11
    go_upto_region 4 with (go_at_call 15; refine HCh.out.mono ?_; rintro e w2 ⟨rfl, b2⟩; have HF2 := Lib.hid (Fr.of_below (S := fun _ => False) b2); obtain ⟨z0, z1, z2⟩ := (HS.out.fr HF2.out).cells; clear b2)
    go_cut [5] (fun s5 wc => ∃ A5 c5, s5 = .slice A5 (N1 + N2) c5 ∧ Hid (Lies wc A5 (bytesV (x1 ++ x2))) ∧ Hid (N1 + N2 ≤ c5 ∧ c5 ≤ 9223372036854775807) ∧ Hid (Fr (fun _ => False) w1 wc))
    case first =>
     go_region_with (first
      | (go_at_call 30
         refine Calls.mono (refJoin_any (some ⟨w4.heap.size, 0, none⟩) 2 [x1, x2] (by simp) (by simp [HN.out.1, HN.out.2]; omega) _ (parts2 w4 x1 x2 A3 A4 c3 c4 N1 N2 HN.out.1 HN.out.2 HC.out.1 HC.out.2 HL3.out HL4.out)) ?_
         rintro e w5 h5
         obtain ⟨A5, c5, rfl, hc5, hc55, l5, b5⟩ := OwnPost.made (N := N1 + N2) (by simp [HN.out.1, HN.out.2]) h5
         have HL5 := Lib.hid l5
         have HF5 := Lib.hid (HF4.out.trans (((Fr.refl (fun _ => False) w4).alloc _).then_below b5) (fun _ _ e => e))
         have HC5 := Lib.hid (And.intro hc5 hc55)
         clear l5 b5 hc5 hc55 h5)
      | (go_at_call 31; have _ := M3; refine (HV2.out _).mono ?_; rintro e w4 ⟨A4, c4, rfl, hc4, -, l4, b4⟩; have HF4 := Lib.hid (HF3.out.then_below b4); have HL4 := Lib.hid l4; have HL3 := Lib.hid (l3.fr (Fr.of_below (S := fun _ => False) b4) (fun _ _ e => e)); have HC := Lib.hid (And.intro hc3 hc4); clear l4 b4)
      | (go_at_call 31; refine (HV1.out _).mono ?_; rintro e w3 ⟨A3, c3, rfl, hc3, -, l3, b3⟩; have HF3 := Lib.hid ((HF2.out.drew).then_below b3); obtain ⟨x0, y1, y2⟩ := (HS.out.fr ((HF2.out.drew).then_below b3)).cells; have M3 := True.intro; clear b3))
     all_goals (go_wp2_with fail)
     all_goals go_meet
     all_goals exact ⟨A5, c5, rfl, Lib.hid (by simpa using HL5.out), HC5, HF5⟩
    case rest =>
      obtain ⟨A5, c5, rfl, HL5, HC5, HF5⟩ := hcut
      obtain ⟨pre, hpre⟩ : ∃ pre, x1 ++ x2 = pre := ⟨_, rfl⟩
      have hprel : pre.length = N1 + N2 := by rw [← hpre, List.length_append, HN.out.1, HN.out.2]
      rw [hpre] at HL5 HRe2
      obtain ⟨N0, hN0⟩ : ∃ N0, N1 + N2 = N0 := ⟨_, rfl⟩
      rw [hN0] at hprel HC5 ⊢
      have hN020 : N0 ≤ 20 := by omega
      have HPR := Lib.hid hprel
      clear hpre hprel hN0 c0 c1 c2 z0 z1 z2
      go_wp2_with fail
      go_loopw [5, 6] (fun u i wr => ∃ (k N9 c9 : Nat) (A9 : Option Addr), u = .slice A9 N9 c9 ∧ k ≤ L ∧ i = .int .i64 k ∧ Hid ((pre ++ (opsO (ps.take k)).flatMap putO).length = N9) ∧ Hid (N9 ≤ c9 ∧ c9 ≤ 9223372036854775807) ∧ Hid (Lies wr A9 (bytesV (pre ++ (opsO (ps.take k)).flatMap putO))) ∧ Hid (Fr (fun _ => False) w1 wr)) (fun _ i _ => L - (intOf i).toNat)
      case atStart => exact ⟨0, N0, c5, A5, rfl, by omega, rfl, Lib.hid (by simpa [opsO] using HPR.out), HC5, Lib.hid (by simpa [opsO] using HL5.out), HF5⟩
      case round =>
        obtain ⟨k, N9, c9, A9, rfl, hk, rfl, HN9, HC9, HL9, HF9⟩ := hrel
        have hk1 : (0 : Int) ≤ k := by omega
        obtain ⟨s0, s1, s2⟩ := (HS.out.fr HF9.out).cells
        by_cases hlt : k < L
        · have hk2 : (k : Int) < L := by omega
          obtain ⟨p, hp⟩ : ∃ p, ps[k]? = some p := ⟨ps[k]'(by rw [HL.out]; exact hlt), List.getElem?_eq_getElem (by rw [HL.out]; exact hlt)⟩
          obtain ⟨ab, ao, rfl⟩ := HSc.out.addr (k := k) (by rw [HL.out]; exact hlt)
          have hScr := (HSc.out.fr HF1.out).fr HF9.out
          obtain ⟨d0, d1, d2, d3⟩ := hScr.cells hp
          have HOk := Lib.hid (hScr.at_ok hp)
          obtain ⟨⟨n1, n2⟩, ⟨n3, n4⟩, n5⟩ := HAll.out p (List.mem_of_getElem? hp)
          have HTk1 := Lib.hid (show (opsO (ps.take (k + 1))).flatMap putO = (opsO (ps.take k)).flatMap putO ++ putO p.o from by
            obtain ⟨hk', rfl⟩ := List.getElem?_eq_some_iff.1 hp
            rw [List.take_succ_eq_append_getElem hk', opsO_append, List.flatMap_append]
            simp [opsO])
          have hxl : N9 ≤ 20000000 := by
            have := HTk.out k
            have h2 := HPR.out
            rw [← HN9.out, List.length_append]; omega
          obtain ⟨XS, hXS⟩ : ∃ XS, pre ++ (opsO (ps.take k)).flatMap putO = XS := ⟨_, rfl⟩
          rw [hXS] at HN9 HL9
          have HT2 : Hid (pre ++ (opsO (ps.take (k + 1))).flatMap putO = XS ++ putO p.o) := Lib.hid (by rw [HTk1.out, ← List.append_assoc, hXS])
          clear hp hScr hXS
          obtain ⟨o, B, pc⟩ := p
          simp only at d0 d1 d2 d3 n1 n2 n3 n4 n5
          (
            obtain ⟨w3, hbx⟩ : ∃ xw, (wr).alloc (.cells #[.bool o.copy, .int .i64 o.frm, .int .i64 o.n, .slice B o.b.length pc] 66) = xw := ⟨_, rfl⟩
            have HOw3 := Lib.hid (show OpAt w3 (wr).heap.size 66 o B pc from by subst hbx; exact OpAt.new _ _ _ _ _)
            have HFw3 := Lib.hid (show Fr (fun _ => False) wr w3 from by subst hbx; exact (Fr.refl _ _).alloc _))
          obtain ⟨f0, f1, f2, f3⟩ := HOw3.out.cells
          have HL3 := Lib.hid (HL9.out.fr HFw3.out (fun _ _ e => e))
          have HF3 := Lib.hid (HF9.out.trans HFw3.out (fun _ _ e => e))
          have HBy := Lib.hid (HOk.out.lies.fr HFw3.out (fun _ _ e => e))
          obtain ⟨cp, f, n, bs⟩ := o
          simp only at d0 d1 d2 d3 f0 f1 f2 f3 n1 n2 n3 n4 n5 hbx HBy
          cases cp
          · obtain ⟨BL, hBL⟩ : ∃ BL, bs.length = BL := ⟨_, rfl⟩
            have HBL := Lib.hid hBL
            have HPo := Lib.hid (putO_new ⟨false, f, n, bs⟩ rfl)
            obtain ⟨w4, hbx4⟩ : ∃ w4, w3.alloc (.cells #[.int .u8 0] 5) = w4 := ⟨_, rfl⟩
            have HF4 := Lib.hid (show Fr (fun _ => False) w3 w4 from by subst hbx4; exact (Fr.refl _ _).alloc _)
            have HL0 := Lib.hid (show Lies w4 (some ⟨w3.heap.size, 0, none⟩) (bytesV [0]) from by subst hbx4; exact lies_b0 w3)
            have hcv := run_convert_lies (P := Try.prog) 26 9 5 Try.underlying26 Try.underlying5 Try.underlying9 (HBy.out.fr HF4.out (fun _ _ e => e)) pc
            have hvt := (varB_length bs.length).2
            obtain ⟨NT, hNT⟩ : ∃ NT, (textB bs).length = NT := ⟨_, rfl⟩
            have hNTb : NT ≤ 5000 := by rw [← hNT, textB, List.length_append]; omega
            have HVT := Lib.hid (fun w => (refText_any (strB bs) w (by rw [show (strB bs).size = bs.length from by simp [strB, ByteArray.size]]; omega)).mono (fun e w' h => OwnPost.made hNT h))
            have HNT := Lib.hid hNT
            obtain ⟨S, hS⟩ : ∃ S, strB bs = S := ⟨_, rfl⟩
            rw [hS] at hcv HVT
            obtain ⟨g0, g1, g2, g3⟩ := (HOw3.out.fr HF4.out).cells
            simp only [hBL] at d3 f3 hbx hcv g3
            clear hBL hNT hS hvt
            go_wp2_with (first
              | (go_at_call 30
                 refine Calls.mono (refJoin_any (some ⟨w5.heap.size, 0, none⟩) 3 [XS, [0], textB bs] (by simp) (by simp [HN9.out, HNT.out]; omega) _ (parts3 w5 XS [0] (textB bs) A9 (some ⟨w3.heap.size, 0, none⟩) A5 c9 1 c5 N9 1 NT HN9.out rfl HNT.out HC9.out.1 (Nat.le_refl _) HC5.out (HL3.out.fr (HF4.out.trans HF5.out (fun _ _ e => e)) (fun _ _ e => e)) (HL0.out.fr HF5.out (fun _ _ e => e)) HL5.out)) ?_
                 rintro e w7 h7
                 obtain ⟨A7, c7, rfl, hc7, hc77, l7, b7⟩ := OwnPost.made (N := N9 + 1 + NT) (by simp [HN9.out, HNT.out]; omega) h7
                 have HL7 := Lib.hid l7
                 have HF7 := Lib.hid (((HF3.out.trans HF4.out (fun _ _ e => e)).trans HF5.out (fun _ _ e => e)).trans (((Fr.refl (fun _ => False) w5).alloc _).then_below b7) (fun _ _ e => e))
                 have HC7 := Lib.hid (And.intro hc7 hc77)
                 clear l7 b7 hc7 hc77 h7)
              | (go_at_call 32; refine (HVT.out _).mono ?_; rintro e w5 ⟨A5, c5, rfl, hc5, -, l5, b5⟩; have HF5 := Lib.hid (Fr.of_below (S := fun _ => False) b5); have HL5 := Lib.hid l5; have HC5 := Lib.hid hc5; clear l5 b5 hc5))
            go_roundw
            case rel =>
              refine ⟨k + 1, N9 + 1 + NT, c7, A7, rfl, by omega, by go_num, Lib.hid ?_, HC7, Lib.hid ?_, HF7⟩
              · rw [HT2.out, HPo.out]; simp [HN9.out, HNT.out]; omega
              · rw [HT2.out, HPo.out]; simpa using HL7.out
            case measure => simp [intOf]; omega
          · have HPo := Lib.hid (putO_copy ⟨true, f, n, bs⟩ rfl)
            have hv1 := (varB_length f.toNat).2
            have hv2 := (varB_length n.toNat).2
            obtain ⟨NF, hNF⟩ : ∃ NF, (varB f.toNat).length = NF := ⟨_, rfl⟩
            obtain ⟨NN, hNN⟩ : ∃ NN, (varB n.toNat).length = NN := ⟨_, rfl⟩
            rw [hNF] at hv1
            rw [hNN] at hv2
            have HVf := Lib.hid (fun w => (refVar_any f w n1 (by omega)).mono (fun e w' h => OwnPost.made hNF h))
            have HVn := Lib.hid (fun w => (refVar_any n w n3 (by omega)).mono (fun e w' h => OwnPost.made hNN h))
            have HNF := Lib.hid (And.intro hNF hNN)
            obtain ⟨xf, hxf⟩ : ∃ xf, varB f.toNat = xf := ⟨_, rfl⟩
            obtain ⟨xn, hxn⟩ : ∃ xn, varB n.toNat = xn := ⟨_, rfl⟩
            have HPo2 : Hid (putO ⟨true, f, n, bs⟩ = [1] ++ xf ++ xn) := Lib.hid (by rw [HPo.out, ← hxf, ← hxn])
            rw [hxf, hxn] at HNF
            rw [hxf] at HVf
            rw [hxn] at HVn
            have hwf : IntKind.u64.wrap f = f := by rw [IntKind.wrap_u64]; omega
            have hwn : IntKind.u64.wrap n = n := by rw [IntKind.wrap_u64]; omega
            obtain ⟨BL, hBL⟩ : ∃ BL, bs.length = BL := ⟨_, rfl⟩
            have HOc : Hid (∀ w', Fr (fun _ => False) w3 w' → w'.cell? ⟨wr.heap.size, 1, none⟩ = some (.int .i64 f) ∧ w'.cell? ⟨wr.heap.size, 2, none⟩ = some (.int .i64 n)) := Lib.hid (fun w' f' => ⟨(HOw3.out.fr f').cells.2.1, (HOw3.out.fr f').cells.2.2.1⟩)
            simp only [hBL] at d3 f3 hbx
            clear hNF hNN hxf hxn hBL
            have q1 : ∀ q : Later w3, q.w'.cell? ⟨wr.heap.size, 1, none⟩ = some (.int .i64 f) := fun q => (HOc.out _ q.fr).1
            have q2 : ∀ q : Later w3, q.w'.cell? ⟨wr.heap.size, 2, none⟩ = some (.int .i64 n) := fun q => (HOc.out _ q.fr).2
            go_upto_region 10 with fail
            have HSq := Lib.hid (show ∃ q : Later w3, w3.drew = q.w' from ⟨⟨_, (Fr.refl _ w3).drew⟩, rfl⟩)
            refine wp_region_held (S := fun w' => ∃ q : Later w3, w' = q.w') (by kernel_rfl) ?_
            (
              refine wpAnyH_takeM (i := 0) (v := .slice A9 N9 c9) 37 rfl rfl (by kernel_rfl) (by kernel_rfl) (by kernel_rfl) (fun _ _ _ h => h) (.inl ⟨by rfl, ?_⟩) HSq.out ?_
              · rintro _ ⟨q, rfl⟩
                go_simp)
            (
              refine wpAnyH_takeM (i := 2) (v := .pointer (some ⟨wr.heap.size, 1, none⟩)) 39 rfl rfl (by kernel_rfl) (by kernel_rfl) (by kernel_rfl) (fun _ _ _ h => h) (.inl ⟨by rfl, ?_⟩) HSq.out ?_
              · rintro _ ⟨q, rfl⟩
                go_simp)
            (
              refine wpAnyH_takeM (i := 3) (v := .int .i64 f) 40 rfl rfl (by kernel_rfl) (by kernel_rfl) (by kernel_rfl) (fun _ _ _ h => h) (.inl ⟨by rfl, ?_⟩) HSq.out ?_
              · rintro _ ⟨q, rfl⟩
                go_simp)
            (
              refine wpAnyH_takeM (i := 4) (v := .int .u64 f) 41 rfl rfl (by kernel_rfl) (by kernel_rfl) (by kernel_rfl) (fun _ _ _ h => h) (.inl ⟨by rfl, ?_⟩) HSq.out ?_
              · rintro _ ⟨q, rfl⟩
                go_simp)
            (
              refine wpAnyH_takeM (i := 6) (v := .pointer (some ⟨wr.heap.size, 2, none⟩)) 43 rfl rfl (by kernel_rfl) (by kernel_rfl) (by kernel_rfl) (fun _ _ _ h => h) (.inl ⟨by rfl, ?_⟩) HSq.out ?_
              · rintro _ ⟨q, rfl⟩
                go_simp)
            (
              refine wpAnyH_takeM (i := 7) (v := .int .i64 n) 44 rfl rfl (by kernel_rfl) (by kernel_rfl) (by kernel_rfl) (fun _ _ _ h => h) (.inl ⟨by rfl, ?_⟩) HSq.out ?_
              · rintro _ ⟨q, rfl⟩
                go_simp)
            (
              refine wpAnyH_takeM (i := 8) (v := .int .u64 n) 45 rfl rfl (by kernel_rfl) (by kernel_rfl) (by kernel_rfl) (fun _ _ _ h => h) (.inl ⟨by rfl, ?_⟩) HSq.out ?_
              · rintro _ ⟨q, rfl⟩
                go_simp)
            simp only [List.setIfInBounds_toArray, List.set_cons_succ, List.set_cons_zero]
            have HFd := Lib.hid (show Fr (fun _ => False) w3 w3.drew from (Fr.refl _ w3).drew)
            change wpAnyH _ _ _ _ _ _ _ _ (World.drew w3)
            obtain ⟨wd, hwd⟩ : ∃ wd, w3.drew = wd := ⟨_, rfl⟩
            rw [hwd]
            rw [hwd] at HFd
            clear hwd HSq q1 q2
            refine wpAnyH_all (rs := [1, 5]) (by kernel_rfl) (by simp) ?_
            intro i hi
            simp only [List.mem_cons, List.not_mem_nil, or_false] at hi
            rcases hi with rfl | rfl
            · (
              (
                refine wpOp_step rfl (fun K hK => ?_)
                obtain ⟨wa, hwa⟩ : ∃ wa, wd.alloc (.cells #[.int .u8 1] 5) = wa := ⟨_, rfl⟩
                have hla : Lies wa (some ⟨wd.heap.size, 0, none⟩) (bytesV [1]) := by rw [← hwa]; exact lies_b1 wd
                have hfa : Fr (fun _ => False) wd wa := by rw [← hwa]; exact (Fr.refl _ wd).alloc _
                obtain ⟨aa, haa⟩ : ∃ aa, wd.heap.size = aa := ⟨_, rfl⟩
                rw [haa] at hla
                have HLa := Lib.hid hla
                have HFaW := Lib.hid hfa
                have HFa := Lib.hid (HFd.out.trans hfa (fun _ _ e => e))
                clear hla hfa
                go_simp
                refine hK _ _ ⟨⟨⟨_, HFa.out⟩, rfl⟩, ?_⟩
                clear hK K hwa haa))
              (
                refine wpAnyH_all (rs := [5]) (by kernel_rfl) (by simp) ?_
                intro i hi
                simp only [List.mem_cons, List.not_mem_nil, or_false] at hi
                subst hi)
              (
                (
                  refine wpOp_step rfl (fun K hK => ?_)
                  go_simp
                  go_wp2_with (go_at_call 31; refine (HVf.out _).mono ?_; rintro e w5 ⟨A5, c5, rfl, hc5, -, l5, b5⟩
                               have HF5 := Lib.hid (HFa.out.then_below b5)
                               have HL5 := Lib.hid l5
                               have HB5 := Lib.hid b5
                               clear l5 b5)
                  refine ⟨⟨⟨_, HF5.out⟩, rfl⟩, ?_⟩))
              (
                refine wpAnyH_all (rs := [9]) (by kernel_rfl) (by simp) ?_
                intro i hi
                simp only [List.mem_cons, List.not_mem_nil, or_false] at hi
                subst hi)
              (
                (
                  refine wpOp_step rfl (fun K hK => ?_)
                  go_simp
                  go_wp2_with (go_at_call 31; refine (HVn.out _).mono ?_; rintro e w6 ⟨A6, c6, rfl, hc6, -, l6, b6⟩
                               have HF6 := Lib.hid (HF5.out.then_below b6)
                               have HL6 := Lib.hid l6
                               have HB6 := Lib.hid b6
                               have HL56 := Lib.hid (HL5.out.fr (Fr.of_below (S := fun _ => False) b6) (fun _ _ e => e))
                               clear l6 b6)
                  refine ⟨⟨⟨_, HF6.out⟩, rfl⟩, ?_⟩))
              have HL1 := Lib.hid ((HLa.out.fr (Fr.of_below (S := fun _ => False) HB5.out) (fun _ _ e => e)).fr (Fr.of_below (S := fun _ => False) HB6.out) (fun _ _ e => e))
              (
                have HL5z := HL56
                have HL6z := HL6
                (
                  (
                    refine wpAnyH_all (rs := [10]) (by kernel_rfl) (by simp) ?_
                    intro i hi
                    simp only [List.mem_cons, List.not_mem_nil, or_false] at hi
                    subst hi)
                  refine wpOp_step rfl (fun K hK => ?_)
                  obtain ⟨wp, hwp⟩ : ∃ wp, w6.alloc (.cells #[.slice A9 N9 c9, .slice (some ⟨aa, 0, none⟩) 1 1, .slice A5 NF c5, .slice A6 NN c6] 26) = wp := ⟨_, rfl⟩
                  have hpp : Parts wp (some ⟨w6.heap.size, 0, none⟩) [XS, [1], xf, xn] := by
                    rw [← hwp]
                    exact parts4 w6 XS [1] xf xn A9 (some ⟨aa, 0, none⟩) A5 A6 c9 1 c5 c6 N9 1 NF NN HN9.out rfl HNF.out.1 HNF.out.2 HC9.out.1 (Nat.le_refl _) hc5 hc6 (HL3.out.fr HF6.out (fun _ _ e => e)) HL1.out HL5z.out HL6z.out
                  have HPp := Lib.hid hpp
                  have HFp := Lib.hid (show Fr (fun _ => False) w3 wp from by rw [← hwp]; exact HF6.out.alloc _)
                  clear hpp
                  go_simp
                  refine hK _ _ ⟨⟨⟨_, HFp.out⟩, rfl⟩, ?_⟩
                  clear hK K hwp
                  (
                    refine wpAnyH_all (rs := [11]) (by kernel_rfl) (by simp) ?_
                    intro i hi
                    simp only [List.mem_cons, List.not_mem_nil, or_false] at hi
                    subst hi)
                  refine wpOp_step rfl (fun K hK => ?_)
                  go_simp
                  go_wp2_with (go_at_call 30
                               refine Calls.mono (refJoin_any (some ⟨w6.heap.size, 0, none⟩) 4 [XS, [1], xf, xn] (by simp) (by simp [HN9.out, HNF.out.1, HNF.out.2]; omega) wp HPp.out) ?_
                               rintro e w7 h7
                               obtain ⟨A7, c7, rfl, hc7, hc77, l7, b7⟩ := OwnPost.made (N := N9 + 1 + NF + NN) (by simp [HN9.out, HNF.out.1, HNF.out.2]; omega) h7
                               have HL7 := Lib.hid l7
                               have HF7 := Lib.hid (HFp.out.then_below b7)
                               have HC7 := Lib.hid (And.intro hc7 hc77)
                               clear l7 b7 hc7 hc77 h7)
                  refine ⟨⟨⟨_, HF7.out⟩, rfl⟩, ?_⟩
                  (
                    refine wpAnyH_all (rs := [12]) (by kernel_rfl) (by simp) ?_
                    intro i hi
                    simp only [List.mem_cons, List.not_mem_nil, or_false] at hi
                    subst hi)
                  refine wpOp_step rfl (fun K hK => ?_)
                  go_simp
                  refine hK _ _ ⟨⟨⟨_, HF7.out⟩, rfl⟩, ?_⟩
                  clear hK K
                  refine wpAnyH_done (by kernel_rfl) ?_ _
                  go_wp2_with fail
                  go_roundw
                  case rel =>
                    refine ⟨k + 1, N9 + 1 + NF + NN, c7, A7, rfl, by omega, by go_num, Lib.hid ?_, HC7, Lib.hid ?_, Lib.hid (HF3.out.trans HF7.out (fun _ _ e => e))⟩
                    · rw [HT2.out, HPo2.out]; simp [HN9.out, HNF.out.1, HNF.out.2]; omega
                    · rw [HT2.out, HPo2.out]; simpa using HL7.out
                  case measure => simp [intOf]; omega))
            · (
              refine wpOp_step rfl (fun K hK => ?_)
              go_simp
              go_wp2_with (go_at_call 31; refine (HVf.out _).mono ?_; rintro e w5 ⟨A5, c5, rfl, hc5, -, l5, b5⟩
                           have HF5 := Lib.hid (HFd.out.then_below b5)
                           have HL5 := Lib.hid l5
                           have HB5 := Lib.hid b5
                           clear l5 b5)
              refine ⟨⟨⟨_, HF5.out⟩, rfl⟩, ?_⟩)
              refine wpAnyH_all (rs := [1, 9]) (by kernel_rfl) (by simp) ?_
              intro i hi
              simp only [List.mem_cons, List.not_mem_nil, or_false] at hi
              rcases hi with rfl | rfl
              · (
                (
                  refine wpOp_step rfl (fun K hK => ?_)
                  obtain ⟨wa, hwa⟩ : ∃ wa, w5.alloc (.cells #[.int .u8 1] 5) = wa := ⟨_, rfl⟩
                  have hla : Lies wa (some ⟨w5.heap.size, 0, none⟩) (bytesV [1]) := by rw [← hwa]; exact lies_b1 w5
                  have hfa : Fr (fun _ => False) w5 wa := by rw [← hwa]; exact (Fr.refl _ w5).alloc _
                  obtain ⟨aa, haa⟩ : ∃ aa, w5.heap.size = aa := ⟨_, rfl⟩
                  rw [haa] at hla
                  have HLa := Lib.hid hla
                  have HFaW := Lib.hid hfa
                  have HFa := Lib.hid (HF5.out.trans hfa (fun _ _ e => e))
                  clear hla hfa
                  go_simp
                  refine hK _ _ ⟨⟨⟨_, HFa.out⟩, rfl⟩, ?_⟩
                  clear hK K hwa haa))
                (
                  refine wpAnyH_all (rs := [9]) (by kernel_rfl) (by simp) ?_
                  intro i hi
                  simp only [List.mem_cons, List.not_mem_nil, or_false] at hi
                  subst hi)
                (
                  have HL5a := Lib.hid (HL5.out.fr HFaW.out (fun _ _ e => e))
                  (
                    refine wpOp_step rfl (fun K hK => ?_)
                    go_simp
                    go_wp2_with (go_at_call 31; refine (HVn.out _).mono ?_; rintro e w6 ⟨A6, c6, rfl, hc6, -, l6, b6⟩
                                 have HF6 := Lib.hid (HFa.out.then_below b6)
                                 have HL6 := Lib.hid l6
                                 have HB6 := Lib.hid b6
                                 have HL56 := Lib.hid (HL5a.out.fr (Fr.of_below (S := fun _ => False) b6) (fun _ _ e => e))
                                 clear l6 b6)
                    refine ⟨⟨⟨_, HF6.out⟩, rfl⟩, ?_⟩))
                have HL1 := Lib.hid (HLa.out.fr (Fr.of_below (S := fun _ => False) HB6.out) (fun _ _ e => e))
                (
                  have HL5z := HL56
                  have HL6z := HL6
                  (
                    (
                      refine wpAnyH_all (rs := [10]) (by kernel_rfl) (by simp) ?_
                      intro i hi
                      simp only [List.mem_cons, List.not_mem_nil, or_false] at hi
                      subst hi)
                    refine wpOp_step rfl (fun K hK => ?_)
                    obtain ⟨wp, hwp⟩ : ∃ wp, w6.alloc (.cells #[.slice A9 N9 c9, .slice (some ⟨aa, 0, none⟩) 1 1, .slice A5 NF c5, .slice A6 NN c6] 26) = wp := ⟨_, rfl⟩
                    have hpp : Parts wp (some ⟨w6.heap.size, 0, none⟩) [XS, [1], xf, xn] := by
                      rw [← hwp]
                      exact parts4 w6 XS [1] xf xn A9 (some ⟨aa, 0, none⟩) A5 A6 c9 1 c5 c6 N9 1 NF NN HN9.out rfl HNF.out.1 HNF.out.2 HC9.out.1 (Nat.le_refl _) hc5 hc6 (HL3.out.fr HF6.out (fun _ _ e => e)) HL1.out HL5z.out HL6z.out
                    have HPp := Lib.hid hpp
                    have HFp := Lib.hid (show Fr (fun _ => False) w3 wp from by rw [← hwp]; exact HF6.out.alloc _)
                    clear hpp
                    go_simp
                    refine hK _ _ ⟨⟨⟨_, HFp.out⟩, rfl⟩, ?_⟩
                    clear hK K hwp
                    (
                      refine wpAnyH_all (rs := [11]) (by kernel_rfl) (by simp) ?_
                      intro i hi
                      simp only [List.mem_cons, List.not_mem_nil, or_false] at hi
                      subst hi)
                    refine wpOp_step rfl (fun K hK => ?_)
                    go_simp
                    go_wp2_with (go_at_call 30
                                 refine Calls.mono (refJoin_any (some ⟨w6.heap.size, 0, none⟩) 4 [XS, [1], xf, xn] (by simp) (by simp [HN9.out, HNF.out.1, HNF.out.2]; omega) wp HPp.out) ?_
                                 rintro e w7 h7
                                 obtain ⟨A7, c7, rfl, hc7, hc77, l7, b7⟩ := OwnPost.made (N := N9 + 1 + NF + NN) (by simp [HN9.out, HNF.out.1, HNF.out.2]; omega) h7
                                 have HL7 := Lib.hid l7
                                 have HF7 := Lib.hid (HFp.out.then_below b7)
                                 have HC7 := Lib.hid (And.intro hc7 hc77)
                                 clear l7 b7 hc7 hc77 h7)
                    refine ⟨⟨⟨_, HF7.out⟩, rfl⟩, ?_⟩
                    (
                      refine wpAnyH_all (rs := [12]) (by kernel_rfl) (by simp) ?_
                      intro i hi
                      simp only [List.mem_cons, List.not_mem_nil, or_false] at hi
                      subst hi)
                    refine wpOp_step rfl (fun K hK => ?_)
                    go_simp
                    refine hK _ _ ⟨⟨⟨_, HF7.out⟩, rfl⟩, ?_⟩
                    clear hK K
                    refine wpAnyH_done (by kernel_rfl) ?_ _
                    go_wp2_with fail
                    go_roundw
                    case rel =>
                      refine ⟨k + 1, N9 + 1 + NF + NN, c7, A7, rfl, by omega, by go_num, Lib.hid ?_, HC7, Lib.hid ?_, Lib.hid (HF3.out.trans HF7.out (fun _ _ e => e))⟩
                      · rw [HT2.out, HPo2.out]; simp [HN9.out, HNF.out.1, HNF.out.2]; omega
                      · rw [HT2.out, HPo2.out]; simpa using HL7.out
                    case measure => simp [intOf]; omega))
              · (
                (
                  refine wpOp_step rfl (fun K hK => ?_)
                  go_simp
                  go_wp2_with (go_at_call 31; refine (HVn.out _).mono ?_; rintro e w6 ⟨A6, c6, rfl, hc6, -, l6, b6⟩
                               have HF6 := Lib.hid (HF5.out.then_below b6)
                               have HL6 := Lib.hid l6
                               have HB6 := Lib.hid b6
                               have HL56 := Lib.hid (HL5.out.fr (Fr.of_below (S := fun _ => False) b6) (fun _ _ e => e))
                               clear l6 b6)
                  refine ⟨⟨⟨_, HF6.out⟩, rfl⟩, ?_⟩))
                (
                  refine wpAnyH_all (rs := [1]) (by kernel_rfl) (by simp) ?_
                  intro i hi
                  simp only [List.mem_cons, List.not_mem_nil, or_false] at hi
                  subst hi)
                (
                  refine wpOp_step rfl (fun K hK => ?_)
                  obtain ⟨wa, hwa⟩ : ∃ wa, w6.alloc (.cells #[.int .u8 1] 5) = wa := ⟨_, rfl⟩
                  have hla : Lies wa (some ⟨w6.heap.size, 0, none⟩) (bytesV [1]) := by rw [← hwa]; exact lies_b1 w6
                  have hfa : Fr (fun _ => False) w6 wa := by rw [← hwa]; exact (Fr.refl _ w6).alloc _
                  obtain ⟨aa, haa⟩ : ∃ aa, w6.heap.size = aa := ⟨_, rfl⟩
                  rw [haa] at hla
                  have HLa := Lib.hid hla
                  have HFaW := Lib.hid hfa
                  have HFa := Lib.hid (HF6.out.trans hfa (fun _ _ e => e))
                  clear hla hfa
                  go_simp
                  refine hK _ _ ⟨⟨⟨_, HFa.out⟩, rfl⟩, ?_⟩
                  clear hK K hwa haa)
                have HL1 := HLa
                (
                  have HL5z := Lib.hid (HL56.out.fr HFaW.out (fun _ _ e => e))
                  have HL6z := Lib.hid (HL6.out.fr HFaW.out (fun _ _ e => e))
                  (
                    (
                      refine wpAnyH_all (rs := [10]) (by kernel_rfl) (by simp) ?_
                      intro i hi
                      simp only [List.mem_cons, List.not_mem_nil, or_false] at hi
                      subst hi)
                    refine wpOp_step rfl (fun K hK => ?_)
                    obtain ⟨wp, hwp⟩ : ∃ wp, wa.alloc (.cells #[.slice A9 N9 c9, .slice (some ⟨aa, 0, none⟩) 1 1, .slice A5 NF c5, .slice A6 NN c6] 26) = wp := ⟨_, rfl⟩
                    have hpp : Parts wp (some ⟨wa.heap.size, 0, none⟩) [XS, [1], xf, xn] := by
                      rw [← hwp]
                      exact parts4 wa XS [1] xf xn A9 (some ⟨aa, 0, none⟩) A5 A6 c9 1 c5 c6 N9 1 NF NN HN9.out rfl HNF.out.1 HNF.out.2 HC9.out.1 (Nat.le_refl _) hc5 hc6 (HL3.out.fr HFa.out (fun _ _ e => e)) HL1.out HL5z.out HL6z.out
                    have HPp := Lib.hid hpp
                    have HFp := Lib.hid (show Fr (fun _ => False) w3 wp from by rw [← hwp]; exact HFa.out.alloc _)
                    clear hpp
                    go_simp
                    refine hK _ _ ⟨⟨⟨_, HFp.out⟩, rfl⟩, ?_⟩
                    clear hK K hwp
                    (
                      refine wpAnyH_all (rs := [11]) (by kernel_rfl) (by simp) ?_
                      intro i hi
                      simp only [List.mem_cons, List.not_mem_nil, or_false] at hi
                      subst hi)
                    refine wpOp_step rfl (fun K hK => ?_)
                    go_simp
                    go_wp2_with (go_at_call 30
                                 refine Calls.mono (refJoin_any (some ⟨wa.heap.size, 0, none⟩) 4 [XS, [1], xf, xn] (by simp) (by simp [HN9.out, HNF.out.1, HNF.out.2]; omega) wp HPp.out) ?_
                                 rintro e w7 h7
                                 obtain ⟨A7, c7, rfl, hc7, hc77, l7, b7⟩ := OwnPost.made (N := N9 + 1 + NF + NN) (by simp [HN9.out, HNF.out.1, HNF.out.2]; omega) h7
                                 have HL7 := Lib.hid l7
                                 have HF7 := Lib.hid (HFp.out.then_below b7)
                                 have HC7 := Lib.hid (And.intro hc7 hc77)
                                 clear l7 b7 hc7 hc77 h7)
                    refine ⟨⟨⟨_, HF7.out⟩, rfl⟩, ?_⟩
                    (
                      refine wpAnyH_all (rs := [12]) (by kernel_rfl) (by simp) ?_
                      intro i hi
                      simp only [List.mem_cons, List.not_mem_nil, or_false] at hi
                      subst hi)
                    refine wpOp_step rfl (fun K hK => ?_)
                    go_simp
                    refine hK _ _ ⟨⟨⟨_, HF7.out⟩, rfl⟩, ?_⟩
                    clear hK K
                    refine wpAnyH_done (by kernel_rfl) ?_ _
                    go_wp2_with fail
                    go_roundw
                    case rel =>
                      refine ⟨k + 1, N9 + 1 + NF + NN, c7, A7, rfl, by omega, by go_num, Lib.hid ?_, HC7, Lib.hid ?_, Lib.hid (HF3.out.trans HF7.out (fun _ _ e => e))⟩
                      · rw [HT2.out, HPo2.out]; simp [HN9.out, HNF.out.1, HNF.out.2]; omega
                      · rw [HT2.out, HPo2.out]; simpa using HL7.out
                    case measure => simp [intOf]; omega))
        · obtain rfl : k = L := by omega
          have htk : ps.take k = ps := List.take_of_length_le (by rw [HL.out]; exact Nat.le_refl _)
          rw [htk] at HN9 HL9
          obtain ⟨XS, hXS⟩ : ∃ XS, pre ++ (opsO ps).flatMap putO = XS := ⟨_, rfl⟩
          rw [hXS] at HN9 HL9 HRe2
          clear htk hXS
          go_wp2_with fail
          go_ret2
          refine ⟨A9, c9, ?_, ?_, HC9.out.2, ?_, (HF1.out.trans HF9.out (fun _ _ e => e)).below (fun _ _ e => e)⟩
          · rw [HRe2.out]; simp only [HN9.out]; rfl
          · rw [HRe2.out]; simp only [HN9.out]; exact HC9.out.1
          · rw [HRe2.out]; exact HL9.out
  · have HRe : Hid (R = ([], 2)) := Lib.hid (by rw [HR.out, if_neg (by rw [hck]; decide)])
    rw [hck] at HCh
    clear hck hR hL h
    go_enter Try.func11, Try.ntmps11
    go_wp2_with (go_at_call 15; refine HCh.out.mono ?_; rintro e w2 ⟨rfl, b2⟩; have HF2 := Lib.hid (Fr.of_below (S := fun _ => False) b2); clear b2)
    go_ret2
    refine ⟨none, 0, ?_, ?_, by omega, ?_, (HF1.out.trans HF2.out (fun _ _ e => e)).below (fun _ _ e => e)⟩
    · rw [HRe.out]; rfl
    · rw [HRe.out]; exact Nat.le_refl _
    · rw [HRe.out]; exact .inl rfl
end Go.Proofs.Ythjfkeploofblaa

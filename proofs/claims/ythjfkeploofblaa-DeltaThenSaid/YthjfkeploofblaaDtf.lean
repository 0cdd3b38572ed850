/- What is proved: a cutter is made, by the program. Conditions: the ops' cells are there; each lays a byte or more, and all at most 4000. -/
import Derived.Test.YthjfkeploofblaaDtb
import Derived.Test.YthjfkeploofblaaDpa
namespace Go.Proofs.Ythjfkeploofblaa
open Go.RowKit
set_option linter.unusedVariables false

def endsK (os : List DOp) (k : Nat) : List Value := (List.range k).map fun j => .int .i64 (sumO (os.take (j + 1)))
theorem endsK_succ (os : List DOp) (k : Nat) : endsK os (k + 1) = endsK os k ++ [.int .i64 (sumO (os.take (k + 1)))] := by simp [endsK, List.range_succ]
theorem src_int (w : World) (c : Int) : Src Try.prog 1 110 (.slice (some ⟨w.heap.size, 0, none⟩) 1 1) 1 [.int .i64 c] (w.alloc (.cells #[.int .i64 c] 3)) :=
  Src.ofSlice _ Try.underlying110 ⟨w.heap.size, 0, none⟩ 1 1 [.int .i64 c] rfl (by intro j u hj; match j, hj with | 0, hj => simp at hj; subst hj; simp [Addr.add]) (by intro u hu; simp at hu; subst hu; rfl)
theorem infoN : (Try.prog.info? 3).map (fun i => (i.zero, i.size, i.bytes)) = some (some (.int .i64 0), 1, 8) := by kernel_rfl

set_option maxHeartbeats 6400000 in
set_option maxRecDepth 100000 in
theorem DnewCutter_any (A : Option Addr) (c : Nat) (ps : List POp) (M : Nat) (hM : M ≤ 4000) (w : World) (h : Scr w A c ps) (hp : ∀ o ∈ opsO ps, 1 ≤ o.size) (hsum : sumO (opsO ps) ≤ 4000) (hl : ps.length ≤ 4000) :
    Calls Try.prog 49 #[.slice A ps.length c, .int .i64 M] w fun e w' => ∃ gc g E ce, e = .returned (.pointer (some ⟨gc, 0, none⟩)) ∧ Ctr w w' gc g M E ce A c ps [] := by
  obtain ⟨L, hL⟩ : ∃ L, ps.length = L := ⟨_, rfl⟩
  have HL := Lib.hid hL
  have HSc := Lib.hid h
  have HP := Lib.hid hp
  have HSm := Lib.hid hsum
  rw [hL] at hl ⊢
  obtain ⟨i1, ki, kz0, kz1, kz2⟩ := info_parts info_u8
  obtain ⟨i0, gi, gz0, gz1, gz2⟩ := info_parts infoN
  obtain ⟨wm, hmk, hom, hgm⟩ := run_make_own (P := Try.prog) w w.heap.size 26 5 i1 (.int .u8 0) 1 Try.underlying26 ki kz0 kz1 .i64 .i64 M (by rw [kz2]; omega) (by unfold maxLen; omega) (Nat.le_refl _)
  have HOm := Lib.hid hom
  have HFm := Lib.hid (show Fr (fun _ => False) w wm from (Fr.refl _ w).grown hgm (fun k hk => by cases hk))
  obtain ⟨g, hg⟩ : ∃ g, w.heap.size = g := ⟨_, rfl⟩
  rw [hg] at hmk HOm
  have HGl := Lib.hid (show g < wm.heap.size from by obtain ⟨cur, hW⟩ := own_whole HOm.out; exact hW.lt)
  obtain ⟨w1, hw1⟩ : ∃ w1, wm.alloc (.cells #[.slice A L c, .slice none 0 0, .slice (some ⟨g, 0, none⟩) 0 M] 114) = w1 := ⟨_, rfl⟩
  have HFm1 := Lib.hid (show Fr (fun _ => False) wm w1 by subst hw1; exact (Fr.refl _ _).alloc _)
  have HW1 := Lib.hid (show Whole w1 wm.heap.size 114 #[.slice A L c, .slice none 0 0, .slice (some ⟨g, 0, none⟩) 0 M] by subst hw1; exact Whole.new _ _ _)
  have hs1 : w1.heap.size = wm.heap.size + 1 := by subst hw1; simp
  have HS1 := Lib.hid hs1
  obtain ⟨gc, hgc⟩ : ∃ gc, wm.heap.size = gc := ⟨_, rfl⟩
  have HGc := Lib.hid hgc
  have HGg := Lib.hid hg
  clear h hp hsum hL hom hgm hs1
  go_enter Try.func49, Try.ntmps49
  go_upto_region 2 with fail
  rw [hgc] at HW1 HS1 HGl
  clear hw1 hmk hgc hg
  go_wp2_with fail
  have HF1 := Lib.hid (HFm.out.trans HFm1.out (fun _ _ e => e))
  go_loopw [6, 16] (fun s6 s16 wr => ∃ (k : Nat) (v : Value), k ≤ L ∧ s16 = .int .i64 k ∧ s6 = .int .i64 (sumO ((opsO ps).take k)) ∧ Hid (Whole wr gc 114 #[.slice A L c, v, .slice (some ⟨g, 0, none⟩) 0 M]) ∧ Hid (wr.ownsRow (gc + 1) 3 1 v k (endsK (opsO ps) k)) ∧ Hid (Fr (fun j => j = gc) w1 wr)) (fun _ i _ => L - (intOf i).toNat)
  case atStart => exact ⟨0, .slice none 0 0, by omega, rfl, rfl, HW1, Lib.hid (World.ownsRow_nil _ _ _ _), Lib.hid (Fr.refl _ _)⟩
  case round =>
    obtain ⟨k, v, hk, rfl, rfl, HW, HO, HF⟩ := hrel
    obtain ⟨Ev, ev, hv, -, -⟩ := own_slice HO.out
    subst hv
    have hk1 : (0 : Int) ≤ k := by omega
    have HFw := Lib.hid (show Fr (fun j => w.heap.size ≤ j) w wr from (HF1.out.mono (fun _ _ e => e.elim)).trans HF.out (fun i hi e => by have := HGg.out; have := HGl.out; omega))
    have HScr := Lib.hid (HSc.out.below (HFw.out.below (fun i hi e => by omega)))
    obtain ⟨c0, c1, c2⟩ := HW.out.three
    have z1 := HW.out.frozen 1
    by_cases hlt : k < L
    · have hk2 : (k : Int) < L := by omega
      obtain ⟨p, hpk⟩ : ∃ p, ps[k]? = some p := ⟨ps[k]'(by rw [HL.out]; exact hlt), List.getElem?_eq_getElem (by rw [HL.out]; exact hlt)⟩
      obtain ⟨o, B, pc⟩ := p
      obtain ⟨ab, ao, rfl⟩ := HScr.out.addr (by rw [HL.out]; exact hlt)
      obtain ⟨d0, d1, d2, d3⟩ := HScr.out.cells hpk
      have hok : (opsO ps)[k]? = some o := by simp [opsO, hpk]
      have hsk := sum_take_succ hok
      have hpo := HP.out o (List.mem_of_getElem? hok)
      have hnn := sum_take_nonneg HP.out k (by simp [opsO, HL.out]; omega)
      have hmx : sumO ((opsO ps).take (k + 1)) ≤ sumO (opsO ps) := by
        rcases (by omega : k + 1 = L ∨ k + 1 < L) with h1 | h1
        · rw [List.take_of_length_le (by simp [opsO, HL.out]; omega)]; exact Int.le_refl _
        · have := sum_take_mono HP.out (i := k + 1) (j := L) h1 (by simp [opsO, HL.out])
          rw [List.take_of_length_le (i := L) (by simp [opsO, HL.out])] at this
          omega
      obtain ⟨S, hS⟩ : ∃ S, sumO ((opsO ps).take k) = S := ⟨_, rfl⟩
      obtain ⟨Z, hZ⟩ : ∃ Z, o.size = Z := ⟨_, rfl⟩
      have HK1 := Lib.hid (show endsK (opsO ps) (k + 1) = endsK (opsO ps) k ++ [.int .i64 (S + Z)] by rw [endsK_succ, hsk, hS, hZ])
      have HSk := Lib.hid (show sumO ((opsO ps).take (k + 1)) = S + Z by rw [hsk, hS, hZ])
      have HLd := Lib.hid (fun w => by have := Dlaid_any o B pc w; rw [hZ] at this; exact this)
      unfold Ans at HLd
      have hsm := HSm.out
      rw [hsk, hS, hZ] at hmx
      rw [hS] at hnn ⊢
      rw [hZ] at hpo
      have hwr : IntKind.i64.wrap (S + Z) = S + Z := by rw [IntKind.wrap_i64]; omega
      simp only at d0 d1 d2 d3
      obtain ⟨w3, hw3⟩ : ∃ w3, wr.alloc (.cells #[.bool o.copy, .int .i64 o.frm, .int .i64 o.n, .slice B o.b.length pc] 57) = w3 := ⟨_, rfl⟩
      have HF3 := Lib.hid (show Fr (fun _ => False) wr w3 by subst hw3; exact (Fr.refl _ _).alloc _)
      have HO3 := Lib.hid (show OpAt w3 wr.heap.size 57 o B pc by subst hw3; exact OpAt.new _ _ _ _ _)
      obtain ⟨f0, f1, f2, f3⟩ := HO3.out.cells
      have HSz := Lib.hid (show gc + 1 ≤ wr.heap.size from by have := HF.out.size; have := HS1.out; omega)
      clear hpk hok hsk hsm hmx hS hZ
      go_upto_region 7 with (go_at_call 35; refine (HLd.out _).mono ?_; rintro e w4 ⟨rfl, b4⟩; have HF4 := Lib.hid (HF3.out.then_below b4); have HW4 := Lib.hid (HW.out.fr HF4.out (fun e => e)); clear b4)
      clear hw3 c0 c1 c2 z1
      have HO4 := Lib.hid (own_fr HO.out HF4.out (fun _ _ e => e))
      obtain ⟨c0, c1, c2⟩ := HW4.out.three
      have z1 := HW4.out.frozen 1
      have HSr := Lib.hid (src_int w4 (S + Z))
      have HS4 := Lib.hid (show gc + 1 ≤ w4.heap.size from by have := HF4.out.size; have := HSz.out; omega)
      go_wp2_with (at_builtin; refine wpList_append_row _ rfl (.tmp 28) (.tmp 30) 110 110 rfl (gc + 1) 3 i0 (.int .i64 0) 1 8 Try.underlying110 gi gz0 gz1 gz2 rfl _ k _ rfl (HO4.out.alloc _) _ 1 _ rfl HSr.out (by unfold maxLen; omega) (by omega) (by have := HS4.out; simp; omega) ?_
                   intro v5 w5 o5 g5 at5
                   have HO5 := Lib.hid o5
                   have HF5 := Lib.hid (show Fr (fun j => Value.ownBlock (.slice Ev k ev) = some j) w4 w5 from ((Fr.refl _ w4).alloc _).grown g5 (fun j hj _ => hj))
                   have HW5 := Lib.hid (HW4.out.fr HF5.out (fun e => by have := (World.ownsRow.lt HO4.out _ e).1; omega))
                   obtain ⟨A5, k5, hv5, _, _⟩ := own_slice o5
                   subst hv5
                   obtain ⟨y0, y1, y2⟩ := HW5.out.three
                   have x1 := HW5.out.frozen 1
                   clear o5 g5 at5)
      go_roundw
      case rel =>
        have f6 : Fr (fun j => j = gc) w5 (w5.setCell ⟨gc, 1, none⟩ (.slice A5 (k + 1) k5)) := Fr.setCell (S := fun j => j = gc) (p := ⟨gc, 1, none⟩) (Fr.refl _ w5) (fun _ => rfl) _
        refine ⟨k + 1, _, by omega, by go_num, by rw [HSk.out], Lib.hid (HW5.out.set 1 _), Lib.hid ?_, Lib.hid ?_⟩
        · rw [HK1.out]
          exact own_fr HO5.out f6 (fun j hj e => by have := (World.ownsRow.lt HO5.out _ hj).1; omega)
        · exact ((HF.out.trans HF4.out (fun _ _ e => e.elim)).trans HF5.out (fun i hi e => by have := (World.ownsRow.lt HO4.out _ e).1; have := HS1.out; omega)).trans f6 (fun _ _ e => e)
      case measure => simp [intOf]; omega
    · obtain rfl : L = k := by omega
      go_wp2_with fail
      go_ret
      have hg0 := HGg.out
      have hg1 := HGl.out
      have hee : endsK (opsO ps) L = endsV (opsO ps) := by unfold endsK endsV; rw [show (opsO ps).length = L by simp [opsO, HL.out]]
      refine ⟨gc, g, Ev, ev, rfl, HFw.out.below (fun i hi e => by omega), by omega, by omega, ?_, ?_, ?_⟩
      · rw [HL.out]; exact HW.out
      · rw [HL.out, ← hee]; exact own_lower HO.out (by omega)
      · rw [hg0]
        exact own_fr (own_fr HOm.out HFm1.out (fun _ _ e => e)) HF.out (fun k hk e => absurd ((show g = k by simpa [Value.ownBlock] using hk).trans e) (by omega))
end Go.Proofs.Ythjfkeploofblaa

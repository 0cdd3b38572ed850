/- What is proved: texts that stand one behind the other: Dep. Conditions: each theorem names its own. -/
import Derived.Deep.CutBlock
import Derived.Test.YtkaeoflgnnlbeaaGreatDoorQDe
import Derived.Test.YtkaeoflgnnlbeaaGreatDoorQDeb
import Derived.Test.YtkaeoflgnnlbeaaGreatDoorQDee
/- What is proved: what the walks of this seat need of layers below, merged out of the texts Dep (of each just what is needed). Conditions: each theorem names its own. -/
/- What is proved: Put of the program. Conditions: the ops' cells are there. -/
namespace Go.Proofs.YtkaeoflgnnlbeaaGreatDoor
open Go.RowKit
set_option linter.unusedVariables false
def putO (o : DOp) : List UInt8 := if o.copy = true then [1] ++ varB o.frm.toNat ++ varB o.n.toNat else [0] ++ varB o.b.length ++ o.b
def putS (b t : Int) (os : List DOp) : List UInt8 := varB b.toNat ++ varB t.toNat ++ os.flatMap putO
def putR (b t : Int) (os : List DOp) : List UInt8 × Int := if chkS b t os = 0 then (putS b t os, 0) else ([], 2)
theorem chkS_two (b t : Int) (os : List DOp) : chkS b t os = 0 ∨ chkS b t os = 2 := by unfold chkS; split <;> simp
/-- What it means that ops may be. -/
theorem restO_all {base left r : Int} {os : List DOp} (h : restO base left os = some r) : (∀ o ∈ os, o.Right base ∧ o.size ≤ left) ∧ (os.length : Int) + r ≤ left := by
  induction os generalizing left with
  | nil => simp [restO] at h; subst h; simp
  | cons o os ih =>
    rw [restO_cons] at h
    split at h
    · rename_i hc
      obtain ⟨h1, h2⟩ := ih h
      have hp := hc.1.pos
      refine ⟨fun p hp' => ?_, ?_⟩
      · rcases List.mem_cons.1 hp' with rfl | h3
        · exact hc
        · have := h1 p h3; exact ⟨this.1, by omega⟩
      · simp; omega
    · cases h
theorem chkS_ok {b t : Int} {os : List DOp} (h : chkS b t os = 0) : (0 ≤ b ∧ b ≤ 4000) ∧ (0 ≤ t ∧ t ≤ 4000) ∧ restO b t os = some 0 := by
  unfold chkS at h
  split at h
  · assumption
  · simp at h
theorem Right_nums {base : Int} {o : DOp} (h : o.Right base) (hb : base ≤ 4000) (hs : o.size ≤ 4000) : 0 ≤ o.frm ∧ o.frm ≤ 4000 ∧ 0 ≤ o.n ∧ o.n ≤ 4000 ∧ o.b.length ≤ 4000 := by
  unfold DOp.size at hs
  rcases h with ⟨h1, h2, h3, h4, h5⟩ | ⟨h1, h2, h3, h4⟩
  · rw [if_pos h1] at hs; omega
  · rw [if_neg (by simp [h1])] at hs; omega
theorem putO_len (o : DOp) (h : o.b.length ≤ 4000) : (putO o).length ≤ 4021 := by
  unfold putO
  split
  · have h1 := (varB_length o.frm.toNat).2
    have h2 := (varB_length o.n.toNat).2
    simp; omega
  · have h1 := (varB_length o.b.length).2
    simp; omega
theorem putOs_len (os : List DOp) (h : ∀ o ∈ os, o.b.length ≤ 4000) : (os.flatMap putO).length ≤ os.length * 4021 := by
  induction os with
  | nil => simp
  | cons o os ih =>
    have h1 := putO_len o (h o (by simp))
    have h2 := ih (fun p hp => h p (by simp [hp]))
    simp only [List.flatMap_cons, List.length_append, List.length_cons]
    omega
theorem WSt.thenF {w w1 w2 : World} {g : Nat} {v v1 : Value} (h : WSt w g v w1 v1) (f : Fr (fun _ => False) w1 w2) : WSt w g v w2 v1 :=
  h.trans ⟨f.mono (fun _ _ e => e.elim), .inl rfl⟩
theorem Wr.frF {w w' : World} {g : Nat} {v : Value} {xs : List UInt8} (h : Wr none w g v xs) (f : Fr (fun _ => False) w w') : Wr none w' g v xs := h.fr f (fun e => e) (fun _ _ e => e)
set_option maxHeartbeats 3200000 in
set_option maxRecDepth 100000 in
theorem DputOp_any (g : Nat) (v : Value) (xs : List UInt8) (o : DOp) (B : Option Addr) (c : Nat) (w : World) (h : Wr none w g v xs) (hx : xs.length ≤ 100000000) (h1 : 0 ≤ o.frm ∧ o.frm ≤ 4000) (h2 : 0 ≤ o.n ∧ o.n ≤ 4000) (h3 : o.b.length ≤ 4000) (hl : Lies w B (bytesV o.b))
    (hB : ∀ ad, B = some ad → o.b ≠ [] → ad.block ≠ g ∧ v.ownBlock ≠ some ad.block) :
    Calls Tryz.prog 138 #[.pointer (some ⟨g, 0, none⟩), .agg #[.bool o.copy, .int .i64 o.frm, .int .i64 o.n, .slice B o.b.length c]] w (WPost none w g v (xs ++ putO o)) := by
  obtain ⟨w1, hw1⟩ : ∃ w1, w.alloc (.cells #[.bool o.copy, .int .i64 o.frm, .int .i64 o.n, .slice B o.b.length c] 170) = w1 := ⟨_, rfl⟩
  have HO : Hid (OpAt w1 w.heap.size 170 o B c) := Lib.hid (by subst hw1; exact OpAt.new w 170 o B c)
  have HF : Hid (Fr (fun _ => False) w w1) := Lib.hid (by subst hw1; exact (Fr.refl _ _).alloc _)
  have hgl := h.1.lt
  have HW := Lib.hid (h.frF HF.out)
  have HSt := Lib.hid ((WSt.refl w g v).thenF HF.out)
  have HGa := Lib.hid (show w.heap.size ≠ g ∧ v.ownBlock ≠ some w.heap.size from ⟨by omega, fun e => by have := (World.ownsRow.lt h.2 _ e).2; omega⟩)
  have HOs : Hid (∀ w' v', WSt w1 g v w' v' → OpAt w' w.heap.size 170 o B c) := Lib.hid (fun w' v' st => ⟨HO.out.whole.fr st.fr (fun e => by
    rcases e with e | e
    · exact HGa.out.1 e
    · exact HGa.out.2 e)⟩)
  have HBl : Hid (∀ w' v', WSt w1 g v w' v' → Lies w' B (bytesV o.b)) := Lib.hid (fun w' v' st => by
    by_cases hb : o.b = []
    · rw [hb]; exact .inl rfl
    · exact (hl.fr HF.out (fun _ _ e => e)).fr st.fr (fun ad hA e => by
        rcases e with e | e
        · exact (hB ad hA hb).1 e
        · exact (hB ad hA hb).2 e))
  have HS0 := Lib.hid (WSt.refl w1 g v)
  obtain ⟨c0, c1, c2, c3⟩ := HO.out.cells
  have HP : Hid (putO o = if o.copy = true then [1] ++ varB o.frm.toNat ++ varB o.n.toNat else [0] ++ varB o.b.length ++ o.b) := Lib.hid rfl
  have hv1 := (varB_length o.frm.toNat).2
  have hv2 := (varB_length o.n.toNat).2
  have hv3 := (varB_length o.b.length).2
  obtain ⟨P, hP⟩ : ∃ P, putO o = P := ⟨_, rfl⟩
  rw [hP] at HP ⊢
  obtain ⟨cp, f, n, bs⟩ := o
  simp only at c0 c1 c2 c3 h1 h2 h3 hw1 HP hv1 hv2 hv3
  obtain ⟨BL, hBL⟩ : ∃ BL, bs.length = BL := ⟨_, rfl⟩
  have HBL := Lib.hid hBL
  simp only [hBL] at c3 h3 hw1 hv3 ⊢
  obtain ⟨h10, h11⟩ := h1
  obtain ⟨h20, h21⟩ := h2
  clear hP hB hl hBL hgl h
  cases cp
  · have HPe : Hid (P = [0] ++ varB BL ++ bs) := Lib.hid (by rw [HP.out, if_neg (by simp), HBL.out])
    have hx1 : (xs ++ [toB 0]).length ≤ 100000001 := by simp; omega
    obtain ⟨x1, hx1e⟩ : ∃ x1, xs ++ [toB 0] = x1 := ⟨_, rfl⟩
    rw [hx1e] at hx1
    obtain ⟨x2, hx2e⟩ : ∃ x2, x1 ++ varB BL = x2 := ⟨_, rfl⟩
    have hx2 : x2.length ≤ 100000011 := by rw [← hx2e, List.length_append]; omega
    have HX := Lib.hid (And.intro hx1e hx2e)
    clear hx1e hx2e
    go_enter Tryz.func138, Tryz.ntmps138
    go_wp2_with (first
      | (go_at_call 44; refine (WRaw_n g v3 x2 bs B c BL _ HBL.out HW3.out (HBl.out _ _ HS3.out) (by rw [HBL.out]; omega)).mono ?_; rintro e w4 ⟨rfl, v4, r4, s4⟩; have HW4 := Lib.hid r4; have HS4 := Lib.hid (HS3.out.trans s4); clear r4 s4)
      | (go_at_call 48; refine (WVar_any g v2 x1 (BL : Int) _ HW2.out (by omega) (by omega) (by omega)).mono ?_; rintro e w3 ⟨rfl, v3, r3, s3⟩; rw [Int.toNat_natCast, HX.out.2] at r3; have HW3 := Lib.hid r3; have HS3 := Lib.hid (HS2.out.trans s3); have g3 := (HOs.out _ _ HS3.out).cells.2.2.2; simp only [HBL.out] at g3; clear r3 s3)
      | (go_at_call 47; refine (WByte_any g v xs 0 _ HW.out (by omega) (by omega) (by omega)).mono ?_; rintro e w2 ⟨rfl, v2, r2, s2⟩; rw [HX.out.1] at r2; have HW2 := Lib.hid r2; have HS2 := Lib.hid (HS0.out.trans s2); have f3 := (HOs.out _ _ HS2.out).cells.2.2.2; simp only [HBL.out] at f3; clear r2 s2))
    go_end0
    refine ⟨rfl, v4, ?_, HSt.out.trans HS4.out⟩
    rw [HPe.out, ← List.append_assoc, ← List.append_assoc]
    have := HX.out
    rw [show xs ++ [0] = x1 from this.1, this.2]
    exact HW4.out
  · have HPe : Hid (P = [1] ++ varB f.toNat ++ varB n.toNat) := Lib.hid (by rw [HP.out, if_pos rfl])
    have hx1 : (xs ++ [toB 1]).length ≤ 100000001 := by simp; omega
    obtain ⟨x1, hx1e⟩ : ∃ x1, xs ++ [toB 1] = x1 := ⟨_, rfl⟩
    rw [hx1e] at hx1
    obtain ⟨x2, hx2e⟩ : ∃ x2, x1 ++ varB f.toNat = x2 := ⟨_, rfl⟩
    have hx2 : x2.length ≤ 100000011 := by rw [← hx2e, List.length_append]; omega
    have HX := Lib.hid (And.intro hx1e hx2e)
    clear hx1e hx2e
    go_enter Tryz.func138, Tryz.ntmps138
    go_wp2_with (first
      | (go_at_call 48; have _ := M3; refine (WVar_any g v3 x2 n _ HW3.out (by omega) (by omega) (by omega)).mono ?_; rintro e w4 ⟨rfl, v4, r4, s4⟩; have HW4 := Lib.hid r4; have HS4 := Lib.hid (HS3.out.trans s4); clear r4 s4)
      | (go_at_call 48; have _ := M2; refine (WVar_any g v2 x1 f _ HW2.out (by omega) (by omega) (by omega)).mono ?_; rintro e w3 ⟨rfl, v3, r3, s3⟩; rw [HX.out.2] at r3; have HW3 := Lib.hid r3; have HS3 := Lib.hid (HS2.out.trans s3); have g3 := (HOs.out _ _ HS3.out).cells.2.2.1; simp only at g3; have M3 := True.intro; clear r3 s3)
      | (go_at_call 47; refine (WByte_any g v xs 1 _ HW.out (by omega) (by omega) (by omega)).mono ?_; rintro e w2 ⟨rfl, v2, r2, s2⟩; rw [HX.out.1] at r2; have HW2 := Lib.hid r2; have HS2 := Lib.hid (HS0.out.trans s2); have f3 := (HOs.out _ _ HS2.out).cells.2.1; simp only at f3; have M2 := True.intro; clear r2 s2))
    go_end0
    refine ⟨rfl, v4, ?_, HSt.out.trans HS4.out⟩
    rw [HPe.out, ← List.append_assoc, ← List.append_assoc]
    have := HX.out
    rw [show xs ++ [1] = x1 from this.1, this.2]
    exact HW4.out
def PutPost (w : World) (r : List UInt8 × Int) (e : Ending) (w' : World) : Prop := ∃ A' c', e = .returned (.tuple #[.slice A' r.1.length c', .int .i64 r.2]) ∧ r.1.length ≤ c' ∧ c' ≤ 9223372036854775807 ∧ Lies w' A' (bytesV r.1) ∧ Below w.heap.size w w'
set_option maxHeartbeats 6400000 in
set_option maxRecDepth 100000 in
theorem DPut_any (b t : Int) (A : Option Addr) (c : Nat) (ps : List POp) (w : World) (h : Scr w A c ps) :
    Calls Tryz.prog 109 #[.agg #[.int .i64 b, .int .i64 t, .slice A ps.length c]] w (PutPost w (putR b t (opsO ps))) := by
  obtain ⟨w1, hw1⟩ : ∃ w1, w.alloc (.cells #[.int .i64 b, .int .i64 t, .slice A ps.length c] 130) = w1 := ⟨_, rfl⟩
  have HS : Hid (SAt w1 w.heap.size 130 b t (.slice A ps.length c)) := Lib.hid (by subst hw1; exact SAt.new w 130 b t _)
  have HF1 : Hid (Fr (fun _ => False) w w1) := Lib.hid (by subst hw1; exact (Fr.refl _ _).alloc _)
  have HSz := Lib.hid (show w1.heap.size = w.heap.size + 1 by subst hw1; simp)
  have HSc := Lib.hid h
  obtain ⟨c0, c1, c2⟩ := HS.out.cells
  have HCh := Lib.hid (DCheck_any b t A c ps w1 (h.fr HF1.out))
  have HR : Hid (putR b t (opsO ps) = if chkS b t (opsO ps) = 0 then (putS b t (opsO ps), 0) else ([], 2)) := Lib.hid rfl
  obtain ⟨R, hR⟩ : ∃ R, putR b t (opsO ps) = R := ⟨_, rfl⟩
  rw [hR] at HR ⊢
  obtain ⟨L, hL⟩ : ∃ L, ps.length = L := ⟨_, rfl⟩
  have HL := Lib.hid hL
  rw [hL] at c2 hw1 HS HCh ⊢
  rcases chkS_two b t (opsO ps) with hck | hck
  · obtain ⟨⟨hb0, hb1⟩, ⟨ht0, ht1⟩, hrest⟩ := chkS_ok hck
    obtain ⟨hall, hlen⟩ := restO_all hrest
    rw [hck] at HCh HR
    have HRe : Hid (R = (putS b t (opsO ps), 0)) := Lib.hid (by rw [HR.out, if_pos rfl])
    have hlen' : L ≤ 4000 := by simp [opsO] at hlen; omega
    have HAll : Hid (∀ p ∈ ps, (0 ≤ p.o.frm ∧ p.o.frm ≤ 4000) ∧ (0 ≤ p.o.n ∧ p.o.n ≤ 4000) ∧ p.o.b.length ≤ 4000) := Lib.hid (fun p hp => by
      have h1 := hall p.o (by simp only [opsO, List.mem_map]; exact ⟨p, hp, rfl⟩)
      have := Right_nums h1.1 hb1 (by omega)
      exact ⟨⟨this.1, this.2.1⟩, ⟨this.2.2.1, this.2.2.2.1⟩, this.2.2.2.2⟩)
    have HTk : Hid (∀ k, ((opsO (ps.take k)).flatMap putO).length ≤ 4000 * 4021) := Lib.hid (fun k => by
      have := putOs_len (opsO (ps.take k)) (fun o ho => by
        simp only [opsO, List.mem_map] at ho
        obtain ⟨p, hp, rfl⟩ := ho
        exact (HAll.out p (List.mem_of_mem_take hp)).2.2)
      have h2 : (opsO (ps.take k)).length ≤ 4000 := by simp [opsO]; omega
      calc _ ≤ _ := this
        _ ≤ 4000 * 4021 := Nat.mul_le_mul_right _ h2)
    have hv1 := (varB_length b.toNat).2
    have hv2 := (varB_length t.toNat).2
    clear hck hrest hall hlen hR hL h
    go_enter Tryz.func109, Tryz.ntmps109
    go_upto_block 0 with (first
      | (go_at_call 48; have _ := M3; refine (WVar_any w2.heap.size v5 (varB b.toNat) t _ HW5.out (by omega) (by omega) (by omega)).mono ?_; rintro e w6 ⟨rfl, v6, r6, s6⟩; have HW6 := Lib.hid r6; have HS6 := Lib.hid (HS5.out.trans s6); obtain ⟨y0, y1, y2⟩ := (HSs.out _ _ HS6.out).cells; clear r6 s6)
      | (go_at_call 48; refine (WVar_any w2.heap.size (.slice none 0 0) [] b _ (Wr.new w2) (by omega) (by omega) (by simp)).mono ?_; rintro e w5 ⟨rfl, v5, r5, s5⟩; rw [List.nil_append] at r5; have HW5 := Lib.hid r5; have HS5 := Lib.hid s5; obtain ⟨x0, x1, x2⟩ := (HSs.out _ _ HS5.out).cells; have M3 := True.intro; clear r5 s5)
      | (go_at_call 137; refine (NewWriter_any _).mono ?_; rintro e w4 ⟨rfl, rfl⟩
         have HSs : Hid (∀ w' v', WSt (w2.alloc (.cells #[.slice none 0 0] 67)) w2.heap.size (.slice none 0 0) w' v' → SAt w' w.heap.size 130 b t (.slice A L c)) := Lib.hid (fun w' v' st => ⟨(((HS.out.fr HF2.out).fr ((Fr.refl _ w2).alloc _)).whole).fr st.fr (fun e => by
           rcases e with e | e
           · have := HF2.out.size; have := HSz.out; omega
           · cases e)⟩)
         obtain ⟨z0, z1, z2⟩ := (HSs.out _ _ (WSt.refl _ _ _)).cells)
      | (go_at_call 92; refine HCh.out.mono ?_; rintro e w2 ⟨rfl, b2⟩; have HF2 := Lib.hid (Fr.of_below (S := fun _ => False) b2); clear b2))
    obtain ⟨ww, hww⟩ : ∃ ww, w2.alloc (.cells #[.slice none 0 0] 67) = ww := ⟨_, rfl⟩
    have HFw := Lib.hid (show Fr (fun _ => False) w ww from by subst hww; exact ((HF1.out.trans HF2.out (fun _ _ e => e)).alloc _))
    have HSt6 := Lib.hid (show WSt ww w2.heap.size (.slice none 0 0) w6 v6 from by subst hww; exact HS6.out)
    have HGs := Lib.hid (show w.heap.size < w2.heap.size from by have := HF2.out.size; have := HSz.out; omega)
    obtain ⟨pre, hpre⟩ : ∃ pre, varB b.toNat ++ varB t.toNat = pre := ⟨_, rfl⟩
    have hprel : pre.length ≤ 20 := by rw [← hpre, List.length_append]; omega
    have HW6p := Lib.hid (show Wr none w6 w2.heap.size v6 (pre ++ (opsO (ps.take 0)).flatMap putO) from by
      have := HW6.out
      rw [hpre] at this
      simpa [opsO] using this)
    have HRe2 : Hid (R = (pre ++ (opsO ps).flatMap putO, 0)) := Lib.hid (by rw [HRe.out, putS, hpre])
    obtain ⟨G, hG⟩ : ∃ G, w2.heap.size = G := ⟨_, rfl⟩
    rw [hG] at HSt6 HGs HW6p ⊢
    clear hww hpre hG x0 x1 x2 y0 y1 y2 z0 z1 z2
    go_wp2_with fail
    go_loopw [27] (fun i wr => ∃ (k : Nat) (v' : Value), k ≤ L ∧ i = .int .i64 k ∧ Hid (Wr none wr G v' (pre ++ (opsO (ps.take k)).flatMap putO)) ∧ Hid (WSt ww G (.slice none 0 0) wr v')) (fun i _ => L - (intOf i).toNat)
    case atStart => exact ⟨0, v6, by omega, rfl, HW6p, HSt6⟩
    case round =>
      obtain ⟨k, v', hk, rfl, HWr, HSt⟩ := hrel
      have hk1 : (0 : Int) ≤ k := by omega
      by_cases hlt : k < L
      · have hk2 : (k : Int) < L := by omega
        obtain ⟨p, hp⟩ : ∃ p, ps[k]? = some p := ⟨ps[k]'(by rw [HL.out]; exact hlt), List.getElem?_eq_getElem (by rw [HL.out]; exact hlt)⟩
        obtain ⟨ab, ao, rfl⟩ := HSc.out.addr (k := k) (by rw [HL.out]; exact hlt)
        have hab : ab < w.heap.size := World.block_lt_of_cell? _ _ (HSc.out.cells hp).1
        have tr : ∀ {B j : Nat} {u : Value}, B < w.heap.size → w.cell? ⟨B, j, none⟩ = some u → wr.cell? ⟨B, j, none⟩ = some u := fun hB hc => HSt.out.fr.cell (HFw.out.cell hc (fun e => e)) (fun e => by
          rcases e with e | e
          · have := HGs.out; simp at e; omega
          · cases e)
        have d0 := tr hab (HSc.out.cells hp).1
        have d1 := tr hab (HSc.out.cells hp).2.1
        have d2 := tr hab (HSc.out.cells hp).2.2.1
        have d3 := tr hab (HSc.out.cells hp).2.2.2
        have hok := HSc.out.at_ok hp
        have hlies : Lies wr p.B (bytesV p.o.b) := by
          rcases hok.lies with h0 | ⟨b', o', hB', hcl⟩
          · exact .inl h0
          · by_cases hb0 : p.o.b = []
            · rw [hb0]; exact .inl rfl
            · obtain ⟨q, l, hql⟩ := List.exists_cons_of_ne_nil hb0
              have hbk : b' < w.heap.size := World.block_lt_of_cell? w ⟨b', o' + 0, none⟩ (hcl 0 (byteV q) (by rw [hql]; rfl))
              exact .inr ⟨b', o', hB', fun j u hu => tr hbk (hcl j u hu)⟩
        have hBn : ∀ ad, p.B = some ad → p.o.b ≠ [] → ad.block ≠ G ∧ v'.ownBlock ≠ some ad.block := fun ad hA hb0 => by
          have hbk : ad.block < w.heap.size := by
            rcases hok.lies with h0 | ⟨b', o', hB', hcl⟩
            · exact absurd (by simpa [bytesV] using h0) hb0
            · obtain ⟨q, l, hql⟩ := List.exists_cons_of_ne_nil hb0
              rw [hB'] at hA
              injection hA with hA
              rw [← hA]
              exact World.block_lt_of_cell? w ⟨b', o' + 0, none⟩ (hcl 0 (byteV q) (by rw [hql]; rfl))
          refine ⟨by have := HGs.out; omega, fun e => ?_⟩
          rcases HSt.out.own with h2 | ⟨b2, h2, h3⟩
          · rw [h2] at e; cases e
          · rw [h2] at e
            injection e with e
            have := HFw.out.size
            omega
        have HPl := Lib.hid hlies
        have HBn := Lib.hid hBn
        obtain ⟨⟨n1, n2⟩, ⟨n3, n4⟩, n5⟩ := HAll.out p (List.mem_of_getElem? hp)
        have HTk1 := Lib.hid (show (opsO (ps.take (k + 1))).flatMap putO = (opsO (ps.take k)).flatMap putO ++ putO p.o from by
          obtain ⟨hk', rfl⟩ := List.getElem?_eq_some_iff.1 hp
          rw [List.take_succ_eq_append_getElem hk', opsO_append, List.flatMap_append]
          simp [opsO])
        have hxl : (pre ++ (opsO (ps.take k)).flatMap putO).length ≤ 100000000 := by
          have := HTk.out k
          rw [List.length_append]; omega
        obtain ⟨XS, hXS⟩ : ∃ XS, pre ++ (opsO (ps.take k)).flatMap putO = XS := ⟨_, rfl⟩
        rw [hXS] at hxl HWr
        have HXS := Lib.hid hXS
        clear hp tr hab hlies hBn hXS hok
        obtain ⟨o, B, pc⟩ := p
        simp only at d0 d1 d2 d3 n1 n2 n3 n4 n5
        (
          obtain ⟨w3, hbx⟩ : ∃ xw, (wr).alloc (.cells #[.bool o.copy, .int .i64 o.frm, .int .i64 o.n, .slice B o.b.length pc] 170) = xw := ⟨_, rfl⟩
          have HOw3 := Lib.hid (show OpAt w3 (wr).heap.size 170 o B pc from by subst hbx; exact OpAt.new _ _ _ _ _)
          have HFw3 := Lib.hid (show Fr (fun _ => False) wr w3 from by subst hbx; exact (Fr.refl _ _).alloc _))
        obtain ⟨f0, f1, f2, f3⟩ := HOw3.out.cells
        have HPu := Lib.hid (DputOp_any G v' XS o B pc w3 (HWr.out.frF HFw3.out) hxl ⟨n1, n2⟩ ⟨n3, n4⟩ n5 (HPl.out.fr HFw3.out (fun _ _ e => e)) HBn.out)
        clear hxl n1 n2 n3 n4 n5
        go_wp2_with (go_at_call 138; refine HPu.out.mono ?_; rintro e w7 ⟨rfl, v7, r7, s7⟩; have HW7 := Lib.hid r7; have HS7 := Lib.hid ((HSt.out.thenF HFw3.out).trans s7); clear r7 s7)
        go_roundw
        case rel => exact ⟨k + 1, v7, by omega, by go_num, Lib.hid (by rw [HTk1.out, ← List.append_assoc, HXS.out]; exact HW7.out), HS7⟩
        case measure => simp [intOf]; omega
      · obtain rfl : k = L := by omega
        have htk : ps.take k = ps := List.take_of_length_le (by rw [HL.out]; exact Nat.le_refl _)
        have HWf := Lib.hid (show Wr none wr G v' (pre ++ (opsO ps).flatMap putO) from by have := HWr.out; rwa [htk] at this)
        have hxl : (pre ++ (opsO ps).flatMap putO).length ≤ 100000000 := by
          have := HTk.out k
          rw [htk] at this
          rw [List.length_append]; omega
        have HBy := Lib.hid (WBytes_any G v' _ wr HWf.out (by omega))
        obtain ⟨XS, hXS⟩ : ∃ XS, pre ++ (opsO ps).flatMap putO = XS := ⟨_, rfl⟩
        rw [hXS] at HBy HRe2
        clear htk hxl hXS
        go_wp2_with (go_at_call 27; refine HBy.out.mono ?_; rintro e w8 ⟨v8, rfl, o8, b8⟩; obtain ⟨A8, c8, hv8, hc8, hc9⟩ := own_slice o8; subst hv8; have HO8 := Lib.hid o8; have HB8 := Lib.hid b8; clear o8 b8)
        go_ret2
        refine ⟨A8, c8, ?_, ?_, hc9, ?_, ?_⟩
        · rw [HRe2.out]; rfl
        · rw [HRe2.out]; exact hc8
        · rw [HRe2.out]; exact Lies.of_own HO8.out
        · refine ((HFw.out.trans HSt.out.fr (fun i hi e => ?_)).then_below HB8.out).below (fun _ _ e => e)
          rcases e with e | e
          · have := HGs.out; omega
          · cases e
  · have HRe : Hid (R = ([], 2)) := Lib.hid (by rw [HR.out, if_neg (by rw [hck]; decide)])
    rw [hck] at HCh
    clear hck hR hL h
    go_enter Tryz.func109, Tryz.ntmps109
    go_wp2_with (go_at_call 92; refine HCh.out.mono ?_; rintro e w2 ⟨rfl, b2⟩; have HF2 := Lib.hid (Fr.of_below (S := fun _ => False) b2); clear b2)
    go_ret2
    refine ⟨none, 0, ?_, ?_, by omega, ?_, (HF1.out.trans HF2.out (fun _ _ e => e)).below (fun _ _ e => e)⟩
    · rw [HRe.out]; rfl
    · rw [HRe.out]; exact Nat.le_refl _
    · rw [HRe.out]; exact .inl rfl
end Go.Proofs.YtkaeoflgnnlbeaaGreatDoor

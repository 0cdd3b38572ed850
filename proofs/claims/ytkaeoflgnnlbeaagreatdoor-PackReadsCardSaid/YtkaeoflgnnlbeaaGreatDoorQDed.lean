/- What is proved: texts that stand one behind the other: Ded. Conditions: each theorem names its own. -/
import Derived.Test.YtkaeoflgnnlbeaaGreatDoorQDeb
/- What is proved: what the walks of this seat need of layers below, merged out of the texts Ded (of each just what is needed). Conditions: each theorem names its own. -/
/- What is proved: whether a script may be, by the document. Conditions: the ops' cells are there. -/
namespace Go.Proofs.YtkaeoflgnnlbeaaGreatDoor
open Go.RowKit
set_option linter.unusedVariables false
set_option maxHeartbeats 6400000 in
set_option maxRecDepth 100000 in
theorem QDCheck_any (b t : Int) (A : Option Addr) (c : Nat) (ps : List POp) (w : World) (h : Scr w A c ps) :
    Calls Tryz.prog 63 #[.agg #[.int .i64 b, .int .i64 t, .slice A ps.length c]] w (Ans w (.int .i64 (chkS b t (opsO ps)))) := by
  unfold Ans
  obtain ⟨w1, hw1⟩ : ∃ w1, w.alloc (.cells #[.int .i64 b, .int .i64 t, .slice A ps.length c] 94) = w1 := ⟨_, rfl⟩
  have HS : Hid (SAt w1 w.heap.size 94 b t (.slice A ps.length c)) := Lib.hid (by subst hw1; exact SAt.new w 94 b t _)
  have HB : Hid (Below w.heap.size w w1) := Lib.hid (by subst hw1; exact (Below.refl _ _).alloc (Nat.le_refl _) _)
  have hs1 : w.heap.size ≤ w1.heap.size := HB.out.size
  have HSc := Lib.hid (h.below HB.out)
  obtain ⟨c0, c1, c2⟩ := HS.out.cells
  have HC : Hid (chkS b t (opsO ps) = if (0 ≤ b ∧ b ≤ 4000) ∧ (0 ≤ t ∧ t ≤ 4000) ∧ restO b t (opsO ps) = some 0 then 0 else 2) := Lib.hid rfl
  obtain ⟨E, hE⟩ : ∃ E, chkS b t (opsO ps) = E := ⟨_, rfl⟩
  rw [hE] at HC ⊢
  obtain ⟨L, hL⟩ : ∃ L, ps.length = L := ⟨_, rfl⟩
  have HL := Lib.hid hL
  have hLc : L ≤ 9223372036854775807 := by have := h.le; have := h.cap; omega
  rw [hL] at c2 hw1 HS ⊢
  clear h hE hL
  by_cases hb : 0 ≤ b ∧ b ≤ 4000
  · obtain ⟨hb0, hb1⟩ := hb
    by_cases ht : 0 ≤ t ∧ t ≤ 4000
    · obtain ⟨ht0, ht1⟩ := ht
      have g0 : decide (b < 0) = false := by simp; omega
      have g1 : decide (4000 < b) = false := by simp; omega
      have g2 : decide (t < 0) = false := by simp; omega
      have g3 : decide (4000 < t) = false := by simp; omega
      go_enter Tryz.func63, Tryz.ntmps63
      go_wp2_with fail
      clear g0 g1 g2 g3
      go_loopw [3, 4] (fun l i wr => ∃ (k : Nat) (m : Int), k ≤ L ∧ i = .int .i64 k ∧ l = .int .i64 m ∧ 0 ≤ m ∧ m ≤ t ∧ Hid (restO b t (opsO ps) = restO b (t - m) ((opsO ps).drop k)) ∧ Hid (Fr (fun _ => False) w1 wr)) (fun _ i _ => L - (intOf i).toNat)
      case atStart => exact ⟨0, 0, by omega, rfl, rfl, by omega, ht0, Lib.hid (by simp), Lib.hid (Fr.refl _ _)⟩
      case round =>
        obtain ⟨k, m, hk, rfl, rfl, hm0, hm1, HR, HF⟩ := hrel
        obtain ⟨s0, s1, s2⟩ := (HS.out.fr HF.out).cells
        by_cases hlt : k < L
        · have hk1 : (0 : Int) ≤ k := by omega
          have hk2 : (k : Int) < L := by omega
          obtain ⟨p, hp⟩ : ∃ p, ps[k]? = some p := ⟨ps[k]'(by rw [HL.out]; exact hlt), List.getElem?_eq_getElem (by rw [HL.out]; exact hlt)⟩
          obtain ⟨ab, ao, rfl⟩ := HSc.out.addr (k := k) (by rw [HL.out]; exact hlt)
          have HPo := Lib.hid (HSc.out.at_ok hp)
          obtain ⟨d0, d1, d2, d3⟩ := (HSc.out.fr HF.out).cells hp
          have HD := Lib.hid (opsO_drop hp)
          clear hp
          obtain ⟨o, B, pc⟩ := p
          simp only at d0 d1 d2 d3
          (
            obtain ⟨w3, hbx⟩ : ∃ xw, (wr).alloc (.cells #[.bool o.copy, .int .i64 o.frm, .int .i64 o.n, .slice B o.b.length pc] 142) = xw := ⟨_, rfl⟩
            have HOw3 := Lib.hid (show OpAt w3 (wr).heap.size 142 o B pc from by subst hbx; exact OpAt.new _ _ _ _ _)
            have HFw3 := Lib.hid (show Fr (fun _ => False) wr w3 from by subst hbx; exact (Fr.refl _ _).alloc _))
          obtain ⟨f0, f1, f2, f3⟩ := HOw3.out.cells
          obtain ⟨t0, t1, t2⟩ := (HS.out.fr (HF.out.trans HFw3.out (fun _ _ e => e))).cells
          have HLd := Lib.hid (fun w => QDSize_any o B pc w)
          have HSt : Hid (restO b t (opsO ps) = if o.Right b ∧ o.size ≤ t - m then restO b (t - m - o.size) ((opsO ps).drop (k + 1)) else none) := Lib.hid (by rw [HR.out, HD.out, restO_cons])
          have Hpos := Lib.hid (fun (h : o.Right b) => h.pos)
          have HRt : Hid (o.Right b ↔ (o.copy = true ∧ 1 ≤ o.n ∧ 0 ≤ o.frm ∧ o.frm ≤ b - o.n ∧ o.b.length = 0) ∨ (o.copy = false ∧ 1 ≤ o.b.length ∧ o.frm = 0 ∧ o.n = 0)) := Lib.hid Iff.rfl
          obtain ⟨hf0, hf1⟩ := HPo.out.f
          obtain ⟨hn0, hn1⟩ := HPo.out.n
          obtain ⟨cp, f, n, bs⟩ := o
          have hbl := HPo.out.le
          have hbc := HPo.out.cap
          obtain ⟨BL, hBL⟩ : ∃ BL, bs.length = BL := ⟨_, rfl⟩
          obtain ⟨z, hz⟩ : ∃ z, DOp.size ⟨cp, f, n, bs⟩ = z := ⟨_, rfl⟩
          simp only [hz, hBL] at HLd HSt Hpos HRt d0 d1 d2 d3 f0 f1 f2 f3 hf0 hf1 hn0 hn1 hbx hbl hbc
          have HOc : Hid (∀ w', Fr (fun _ => False) w3 w' → w'.cell? ⟨wr.heap.size, 0, none⟩ = some (.bool cp) ∧ w'.cell? ⟨wr.heap.size, 1, none⟩ = some (.int .i64 f) ∧ w'.cell? ⟨wr.heap.size, 2, none⟩ = some (.int .i64 n) ∧ w'.cell? ⟨wr.heap.size, 3, none⟩ = some (.slice B BL pc)) := Lib.hid (by
            intro w' f'
            have := (HOw3.out.fr f').cells
            simpa only [hBL] using this)
          clear hz
          by_cases hRt : DOp.Right b ⟨cp, f, n, bs⟩
          · have HRt1 := Lib.hid hRt
            have hz1 := Hpos.out hRt
            have HRR := Lib.hid (HRt.out.1 hRt)
            clear hRt
            have hwr : IntKind.i64.wrap (t - m) = t - m := by rw [IntKind.wrap_i64]; omega
            by_cases hzm : z ≤ t - m
            · have HSt2 : Hid (restO b t (opsO ps) = restO b (t - (m + z)) ((opsO ps).drop (k + 1))) := Lib.hid (by rw [HSt.out, if_pos ⟨HRt1.out, hzm⟩]; congr 1; omega)
              cases cp
              · obtain ⟨h1, rfl, rfl⟩ : 1 ≤ BL ∧ f = 0 ∧ n = 0 := by have := HRR.out; simpa using this
                have h2 : BL ≠ 0 := by omega
                (
                  have q1 : ∀ q : Later w3, q.w'.cell? ⟨wr.heap.size, 0, none⟩ = some (.bool false) := fun q => (HOc.out q.w' q.fr).1
                  have q2 : ∀ q : Later w3, q.w'.cell? ⟨wr.heap.size, 1, none⟩ = some (.int .i64 0) := fun q => (HOc.out q.w' q.fr).2.1
                  have q3 : ∀ q : Later w3, q.w'.cell? ⟨wr.heap.size, 2, none⟩ = some (.int .i64 0) := fun q => (HOc.out q.w' q.fr).2.2.1
                  have q4 : ∀ q : Later w3, q.w'.cell? ⟨wr.heap.size, 3, none⟩ = some (.slice B _ pc) := fun q => (HOc.out q.w' q.fr).2.2.2
                  have q5 : ∀ q : Later w3, q.w'.cell? ⟨w.heap.size, 1, none⟩ = some (.int .i64 t) := fun q => (HS.out.fr ((HF.out.trans HFw3.out (fun _ _ e => e)).trans q.fr (fun _ _ e => e))).cells.2.1
                  go_wp2_with fail
                  refine wp_region_later (w0 := w3) (Fr.refl _ _) (by kernel_rfl) (by kernel_rfl) ?_
                  repeat (quiet_step (first
                    | (go_at_call 94; refine Calls.later_of (HLd.out _))))
                  refine wpQuiet_nil ?_
                  intro _ hw'
                  obtain ⟨q, hw''⟩ := hw'
                  subst hw''
                  have r1 := q1 q
                  have r2 := q2 q
                  have r3 := q3 q
                  have r4 := q4 q
                  have HFq := Lib.hid ((HF.out.trans HFw3.out (fun _ _ e => e)).trans q.fr (fun _ _ e => e)))
                (
                  go_wp2_with (go_at_call 94; refine (HLd.out _).mono ?_; rintro e w6 ⟨rfl, b6⟩; have HB6 := Lib.hid b6; clear b6)
                  go_roundw
                  case rel => exact ⟨k + 1, m + z, by omega, by go_num, by first | rfl | go_num, by omega, by omega, HSt2, Lib.hid (HFq.out.then_below HB6.out)⟩
                  case measure => simp [intOf]; omega)
              · obtain ⟨h1, h3, h4, rfl⟩ : 1 ≤ n ∧ 0 ≤ f ∧ f ≤ b - n ∧ BL = 0 := by have := HRR.out; simpa using this
                have h2 : n ≤ b := by omega
                (
                  have q1 : ∀ q : Later w3, q.w'.cell? ⟨wr.heap.size, 0, none⟩ = some (.bool true) := fun q => (HOc.out q.w' q.fr).1
                  have q2 : ∀ q : Later w3, q.w'.cell? ⟨wr.heap.size, 1, none⟩ = some (.int .i64 f) := fun q => (HOc.out q.w' q.fr).2.1
                  have q3 : ∀ q : Later w3, q.w'.cell? ⟨wr.heap.size, 2, none⟩ = some (.int .i64 n) := fun q => (HOc.out q.w' q.fr).2.2.1
                  have q4 : ∀ q : Later w3, q.w'.cell? ⟨wr.heap.size, 3, none⟩ = some (.slice B _ pc) := fun q => (HOc.out q.w' q.fr).2.2.2
                  have q5 : ∀ q : Later w3, q.w'.cell? ⟨w.heap.size, 1, none⟩ = some (.int .i64 t) := fun q => (HS.out.fr ((HF.out.trans HFw3.out (fun _ _ e => e)).trans q.fr (fun _ _ e => e))).cells.2.1
                  go_wp2_with fail
                  refine wp_region_later (w0 := w3) (Fr.refl _ _) (by kernel_rfl) (by kernel_rfl) ?_
                  repeat (quiet_step (first
                    | (go_at_call 94; refine Calls.later_of (HLd.out _))))
                  refine wpQuiet_nil ?_
                  intro _ hw'
                  obtain ⟨q, hw''⟩ := hw'
                  subst hw''
                  have r1 := q1 q
                  have r2 := q2 q
                  have r3 := q3 q
                  have r4 := q4 q
                  have HFq := Lib.hid ((HF.out.trans HFw3.out (fun _ _ e => e)).trans q.fr (fun _ _ e => e)))
                (
                  go_wp2_with (go_at_call 94; refine (HLd.out _).mono ?_; rintro e w6 ⟨rfl, b6⟩; have HB6 := Lib.hid b6; clear b6)
                  go_roundw
                  case rel => exact ⟨k + 1, m + z, by omega, by go_num, by first | rfl | go_num, by omega, by omega, HSt2, Lib.hid (HFq.out.then_below HB6.out)⟩
                  case measure => simp [intOf]; omega)
            · have HE2 : Hid (E = 2) := Lib.hid (by
                have h2 : restO b t (opsO ps) = none := by rw [HSt.out, if_neg (fun h => hzm h.2)]
                rw [HC.out, h2, if_neg (by simp)])
              cases cp
              · obtain ⟨h1, rfl, rfl⟩ : 1 ≤ BL ∧ f = 0 ∧ n = 0 := by have := HRR.out; simpa using this
                have h2 : BL ≠ 0 := by omega
                (
                  have q1 : ∀ q : Later w3, q.w'.cell? ⟨wr.heap.size, 0, none⟩ = some (.bool false) := fun q => (HOc.out q.w' q.fr).1
                  have q2 : ∀ q : Later w3, q.w'.cell? ⟨wr.heap.size, 1, none⟩ = some (.int .i64 0) := fun q => (HOc.out q.w' q.fr).2.1
                  have q3 : ∀ q : Later w3, q.w'.cell? ⟨wr.heap.size, 2, none⟩ = some (.int .i64 0) := fun q => (HOc.out q.w' q.fr).2.2.1
                  have q4 : ∀ q : Later w3, q.w'.cell? ⟨wr.heap.size, 3, none⟩ = some (.slice B _ pc) := fun q => (HOc.out q.w' q.fr).2.2.2
                  have q5 : ∀ q : Later w3, q.w'.cell? ⟨w.heap.size, 1, none⟩ = some (.int .i64 t) := fun q => (HS.out.fr ((HF.out.trans HFw3.out (fun _ _ e => e)).trans q.fr (fun _ _ e => e))).cells.2.1
                  go_wp2_with fail
                  refine wp_region_later (w0 := w3) (Fr.refl _ _) (by kernel_rfl) (by kernel_rfl) ?_
                  repeat (quiet_step (first
                    | (go_at_call 94; refine Calls.later_of (HLd.out _))))
                  refine wpQuiet_nil ?_
                  intro _ hw'
                  obtain ⟨q, hw''⟩ := hw'
                  subst hw''
                  have r1 := q1 q
                  have r2 := q2 q
                  have r3 := q3 q
                  have r4 := q4 q
                  have HFq := Lib.hid ((HF.out.trans HFw3.out (fun _ _ e => e)).trans q.fr (fun _ _ e => e)))
                (
                  go_wp2_with fail
                  go_ret
                  exact ⟨by rw [HE2.out]; rfl, HB.out.trans ((HFq.out.below (fun _ _ e => e)).mono hs1)⟩)
              · obtain ⟨h1, h3, h4, rfl⟩ : 1 ≤ n ∧ 0 ≤ f ∧ f ≤ b - n ∧ BL = 0 := by have := HRR.out; simpa using this
                have h2 : n ≤ b := by omega
                (
                  have q1 : ∀ q : Later w3, q.w'.cell? ⟨wr.heap.size, 0, none⟩ = some (.bool true) := fun q => (HOc.out q.w' q.fr).1
                  have q2 : ∀ q : Later w3, q.w'.cell? ⟨wr.heap.size, 1, none⟩ = some (.int .i64 f) := fun q => (HOc.out q.w' q.fr).2.1
                  have q3 : ∀ q : Later w3, q.w'.cell? ⟨wr.heap.size, 2, none⟩ = some (.int .i64 n) := fun q => (HOc.out q.w' q.fr).2.2.1
                  have q4 : ∀ q : Later w3, q.w'.cell? ⟨wr.heap.size, 3, none⟩ = some (.slice B _ pc) := fun q => (HOc.out q.w' q.fr).2.2.2
                  have q5 : ∀ q : Later w3, q.w'.cell? ⟨w.heap.size, 1, none⟩ = some (.int .i64 t) := fun q => (HS.out.fr ((HF.out.trans HFw3.out (fun _ _ e => e)).trans q.fr (fun _ _ e => e))).cells.2.1
                  go_wp2_with fail
                  refine wp_region_later (w0 := w3) (Fr.refl _ _) (by kernel_rfl) (by kernel_rfl) ?_
                  repeat (quiet_step (first
                    | (go_at_call 94; refine Calls.later_of (HLd.out _))))
                  refine wpQuiet_nil ?_
                  intro _ hw'
                  obtain ⟨q, hw''⟩ := hw'
                  subst hw''
                  have r1 := q1 q
                  have r2 := q2 q
                  have r3 := q3 q
                  have r4 := q4 q
                  have HFq := Lib.hid ((HF.out.trans HFw3.out (fun _ _ e => e)).trans q.fr (fun _ _ e => e)))
                (
                  go_wp2_with fail
                  go_ret
                  exact ⟨by rw [HE2.out]; rfl, HB.out.trans ((HFq.out.below (fun _ _ e => e)).mono hs1)⟩)
          · have HnR := Lib.hid hRt
            have HE2 : Hid (E = 2) := Lib.hid (by
              (
                have h2 : restO b t (opsO ps) = none := by rw [HSt.out, if_neg (fun h => HnR.out h.1)]
                rw [HC.out, h2, if_neg (by simp)]))
            have HN : Hid (¬ ((cp = true ∧ 1 ≤ n ∧ 0 ≤ f ∧ f ≤ b - n ∧ BL = 0) ∨ (cp = false ∧ 1 ≤ BL ∧ f = 0 ∧ n = 0))) := Lib.hid (fun h => hRt (HRt.out.2 h))
            clear hRt
            cases cp
            · by_cases h1 : 1 ≤ BL
              · by_cases h2 : f = 0
                · by_cases h3 : n = 0
                  · exact absurd (.inr ⟨rfl, h1, h2, h3⟩) HN.out
                  · subst h2
                    have h4 : (n != 0) = true := by simpa using h3
                    (
                      go_wp2_with fail
                      go_ret
                      exact ⟨by rw [HE2.out]; rfl, HB.out.trans (((HF.out.trans HFw3.out (fun _ _ e => e)).below (fun _ _ e => e)).mono hs1)⟩)
                · have h4 : (f != 0) = true := by simpa using h2
                  (
                    go_wp2_with fail
                    go_ret
                    exact ⟨by rw [HE2.out]; rfl, HB.out.trans (((HF.out.trans HFw3.out (fun _ _ e => e)).below (fun _ _ e => e)).mono hs1)⟩)
              · obtain rfl : BL = 0 := by omega
                (
                  go_wp2_with fail
                  go_ret
                  exact ⟨by rw [HE2.out]; rfl, HB.out.trans (((HF.out.trans HFw3.out (fun _ _ e => e)).below (fun _ _ e => e)).mono hs1)⟩)
            · by_cases h1 : 1 ≤ n
              · by_cases h2 : n ≤ b
                · by_cases h3 : 0 ≤ f
                  · by_cases h4 : f ≤ b - n
                    · by_cases h5 : BL = 0
                      · exact absurd (.inl ⟨rfl, h1, h3, h4, h5⟩) HN.out
                      · have h6 : 0 < BL := by omega
                        (
                          go_wp2_with fail
                          go_ret
                          exact ⟨by rw [HE2.out]; rfl, HB.out.trans (((HF.out.trans HFw3.out (fun _ _ e => e)).below (fun _ _ e => e)).mono hs1)⟩)
                    · (
                      go_wp2_with fail
                      go_ret
                      exact ⟨by rw [HE2.out]; rfl, HB.out.trans (((HF.out.trans HFw3.out (fun _ _ e => e)).below (fun _ _ e => e)).mono hs1)⟩)
                  · (
                    go_wp2_with fail
                    go_ret
                    exact ⟨by rw [HE2.out]; rfl, HB.out.trans (((HF.out.trans HFw3.out (fun _ _ e => e)).below (fun _ _ e => e)).mono hs1)⟩)
                · (
                  go_wp2_with fail
                  go_ret
                  exact ⟨by rw [HE2.out]; rfl, HB.out.trans (((HF.out.trans HFw3.out (fun _ _ e => e)).below (fun _ _ e => e)).mono hs1)⟩)
              · (
                go_wp2_with fail
                go_ret
                exact ⟨by rw [HE2.out]; rfl, HB.out.trans (((HF.out.trans HFw3.out (fun _ _ e => e)).below (fun _ _ e => e)).mono hs1)⟩)
        · obtain rfl : k = L := by omega
          have HEn : Hid (E = if m = t then 0 else 2) := Lib.hid (by
            have hdr : (opsO ps).drop k = [] := by rw [← HL.out]; simp [opsO]
            rw [HC.out, HR.out, hdr]
            by_cases h0 : m = t
            · subst h0; simp [restO, hb0, hb1, ht0, ht1]
            · rw [if_neg h0, if_neg]; rintro ⟨-, -, h⟩; simp [restO] at h; exact h0 (by omega))
          by_cases h0 : m = t
          · have HE0 : Hid (E = 0) := Lib.hid (by rw [HEn.out, if_pos h0])
            subst h0
            go_wp2_with fail
            go_ret
            exact ⟨by rw [HE0.out]; rfl, HB.out.trans ((HF.out.below (fun _ _ e => e)).mono hs1)⟩
          · go_wp2_with fail
            go_ret
            exact ⟨by rw [HEn.out, if_neg h0]; rfl, HB.out.trans ((HF.out.below (fun _ _ e => e)).mono hs1)⟩
    · have HE2 : Hid (E = 2) := Lib.hid (by rw [HC.out, if_neg (fun h => ht h.2.1)])
      by_cases ht0 : 0 ≤ t
      · have ht1 : 4000 < t := by omega
        clear ht
        go_enter Tryz.func63, Tryz.ntmps63
        go_wp2_with fail
        go_ret
        exact ⟨by rw [HE2.out]; rfl, HB.out⟩
      · clear ht
        go_enter Tryz.func63, Tryz.ntmps63
        go_wp2_with fail
        go_ret
        exact ⟨by rw [HE2.out]; rfl, HB.out⟩
  · have HE2 : Hid (E = 2) := Lib.hid (by rw [HC.out, if_neg (fun h => hb h.1)])
    by_cases hb0 : 0 ≤ b
    · have hb1 : 4000 < b := by omega
      clear hb
      go_enter Tryz.func63, Tryz.ntmps63
      go_wp2_with fail
      go_ret
      exact ⟨by rw [HE2.out]; rfl, HB.out⟩
    · clear hb
      go_enter Tryz.func63, Tryz.ntmps63
      go_wp2_with fail
      go_ret
      exact ⟨by rw [HE2.out]; rfl, HB.out⟩
end Go.Proofs.YtkaeoflgnnlbeaaGreatDoor

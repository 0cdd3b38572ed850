/- What is proved: Plain and Date of the document: one after the other is taken, the youngest of all that are left, or of those that are ready. Conditions: the cells are there, the graph right, the numbers nodes'. -/
import Derived.Test.YtpaigmmpihcdaaaJb
namespace Go.Proofs.Ytpaigmmpihcdaaa
open Go.RowKit Go.Shelf
set_option linter.unusedVariables false

def pickP (t : Nat → Int) (N : Nat) (left : Nat → Bool) : Option Nat := yng left t N
def pickD (pr : Nat → List Nat) (t : Nat → Int) (N : Nat) (left : Nat → Bool) : Option Nat := yng (rdyB pr N left) t N
def plainL (t : Nat → Int) (N : Nat) (l : List Nat) : List Nat := takeY (pickP t N) (cnt (fun k => decide (k ∈ l)) N) (fun k => decide (k ∈ l))
def dateL (pr : Nat → List Nat) (t : Nat → Int) (N : Nat) (l : List Nat) : List Nat := takeY (pickD pr t N) (cnt (fun k => decide (k ∈ l)) N) (fun k => decide (k ∈ l))
theorem pickP_mem {t : Nat → Int} {N : Nat} {left : Nat → Bool} {n : Nat} (h : pickP t N left = some n) : n < N ∧ left n = true := yng_mem _ _ N n h
theorem pickD_mem {pr : Nat → List Nat} {t : Nat → Int} {N : Nat} {left : Nat → Bool} {n : Nat} (h : pickD pr t N left = some n) : n < N ∧ left n = true := by
  obtain ⟨h1, h2⟩ := yng_mem _ _ N n h
  refine ⟨h1, ?_⟩
  unfold rdyB rdyTo at h2
  rw [Bool.and_eq_true] at h2
  exact h2.1
theorem tl_P {t : Nat → Int} {N : Nat} {left : Nat → Bool} {n : Nat} {out T : List Nat} (h : pickP t N left = some n) (hT : out ++ takeY (pickP t N) (cnt left N) left = T) : (out ++ [n]) ++ takeY (pickP t N) (cnt (outB left n) N) (outB left n) = T := by
  rw [← hT, takeY_step _ left N n h (pickP_mem h).1 (pickP_mem h).2, List.append_assoc]; rfl
theorem tl_D {pr : Nat → List Nat} {t : Nat → Int} {N : Nat} {left : Nat → Bool} {n : Nat} {out T : List Nat} (h : pickD pr t N left = some n) (hT : out ++ takeY (pickD pr t N) (cnt left N) left = T) : (out ++ [n]) ++ takeY (pickD pr t N) (cnt (outB left n) N) (outB left n) = T := by
  rw [← hT, takeY_step _ left N n h (pickD_mem h).1 (pickD_mem h).2, List.append_assoc]; rfl
theorem OwB.out {w w' : World} {g N : Nat} {f : Nat → Bool} (h : OwB w w' g N f) (k : Nat) (hk : k < N) : OwB w (w'.setCell ⟨g, k, none⟩ (.bool false)) g N (outB f k) := h.set k hk false _ (fun j hj => by unfold outB; rfl)

theorem own_low {w : World} {a b n size : Nat} {e : TypeId} {v : Value} {xs : List Value} (h : w.ownsRow b e size v n xs) (hab : a ≤ b) : w.ownsRow a e size v n xs := by
  refine ⟨h.1, ?_⟩
  rcases h.2 with h0 | ⟨g, cap, cur, hv, hb, r⟩
  · exact .inl h0
  · exact .inr ⟨g, cap, cur, hv, Nat.le_trans hab hb, r⟩
/-- What stands at the head of a round: who is left (at block g), what is told. -/
structure TkR (w w2 wr : World) (g N : Nat) (left : Nat → Bool) (v : Value) (out : List Nat) : Prop where
  lf : OwB w wr g N left
  fr : Fr (fun k => k = g) w2 wr
  own : wr.ownsRow w2.heap.size 3 1 v out.length (nC out)
  le : w.heap.size ≤ w2.heap.size
theorem TkR.frF {w w2 wr w' : World} {g N : Nat} {left : Nat → Bool} {v : Value} {out : List Nat} (h : TkR w w2 wr g N left v out) (f : Fr (fun _ => False) wr w') : TkR w w2 w' g N left v out :=
  ⟨h.lf.fr f, h.fr.trans f (fun _ _ e => e.elim), own_fr h.own f (fun _ _ e => e), h.le⟩
theorem TkR.ng {w w2 wr : World} {g N : Nat} {left : Nat → Bool} {v : Value} {out : List Nat} (h : TkR w w2 wr g N left v out) : v.ownBlock ≠ some g := own_apart h.own h.lf.row (by decide)
theorem TkR.grow {w w2 wr w' : World} {g N : Nat} {left : Nat → Bool} {v v' : Value} {out : List Nat} {n : Nat} (h : TkR w w2 wr g N left v out) (o : w'.ownsRow w2.heap.size 3 1 v' (out.length + 1) (nC out ++ nC [n])) (gr : wr.grownBy w' v.ownBlock) : TkR w w2 w' g N left v' (out ++ [n]) := by
  have f : Fr (fun k => v.ownBlock = some k) wr w' := (Fr.refl _ wr).grown gr (fun k e _ => e)
  have hb : ∀ j, v.ownBlock = some j → w2.heap.size ≤ j := fun j e => (World.ownsRow.lt h.own j e).1
  refine ⟨⟨h.lf.row.fr f (fun e => h.ng e), h.lf.old.trans f (fun j hj e => by have := hb j e; have := h.le; omega), h.lf.new⟩, h.fr.trans f (fun j hj e => by have := hb j e; omega), ?_, h.le⟩
  rw [List.length_append, nC_append]
  exact o
theorem TkR.out {w w2 wr : World} {g N : Nat} {left : Nat → Bool} {v : Value} {out : List Nat} (h : TkR w w2 wr g N left v out) (n : Nat) (hn : n < N) : TkR w w2 (wr.setCell ⟨g, n, none⟩ (.bool false)) g N (outB left n) v out := by
  have f : Fr (fun k => k = g) wr (wr.setCell ⟨g, n, none⟩ (.bool false)) := (Fr.refl (fun k => k = g) wr).setCell (p := ⟨g, n, none⟩) (fun _ => rfl) _
  exact ⟨h.lf.out n hn, h.fr.trans f (fun _ _ e => e), own_fr h.own f (fun j hj e => h.ng (by rw [← (show j = g from e)]; exact hj)), h.le⟩
theorem TkR.done {w w2 wr : World} {g N : Nat} {left : Nat → Bool} {v : Value} {out : List Nat} (h : TkR w w2 wr g N left v out) : OwnN w wr v out := ⟨own_low h.own h.le, h.lf.old⟩
set_option maxHeartbeats 3200000 in
set_option maxRecDepth 100000 in
theorem QoPlain_any (A : Option Addr) (c : Nat) (G : List Nd) (B : Option Addr) (cB : Nat) (l : List Nat) (hR : RightG G) (hn : l.length ≤ 100000) (hl : ∀ x ∈ l, x < G.length) (w : World) (hG : GAt w A G) (h : Lies w B (nC l)) :
    Calls Try.prog 11 #[.slice A G.length c, .slice B l.length cB] w fun e w' => ∃ v, e = .returned v ∧ OwnN w w' v (plainL (fun n => (timeL G).getD n 0) G.length l) := by
  obtain ⟨i0, hii, hz0, hz1, hz2⟩ := info_parts info_int
  have hlen := hR.len
  have HIn := Lib.hid (QoIn_any A c G.length B cB l (by omega) hn hl w h)
  have HTm := Lib.hid (fun w1 (f : Fr (fun _ => False) w w1) => QoTimes_any A c G (by omega) w1 (hG.fr f))
  have hTl : (timeL G).length = G.length := by unfold timeL; rw [List.length_map]
  have HTl := Lib.hid hTl
  have HYg := Lib.hid (fun g f A2 c2 w1 (h1 : Whole w1 g 4 (rowC (boolC f) G.length)) (h2 : Lies w1 A2 (zC (timeL G))) => Qoyoungest_any g G.length f A2 G.length c2 (timeL G) (by omega) hTl (Nat.le_refl _) w1 h1 h2)
  obtain ⟨t, ht⟩ : ∃ t : Nat → Int, (fun n => (timeL G).getD n 0) = t := ⟨_, rfl⟩
  rw [ht] at HYg ⊢
  obtain ⟨N, hN⟩ : ∃ N, G.length = N := ⟨_, rfl⟩
  rw [hN] at HIn HTm HYg hlen HTl ⊢
  have HP : Hid (∀ left, pickP t N left = yng left t N) := Lib.hid (fun left => rfl)
  have HStep := Lib.hid (fun left n out T h hT => tl_P (t := t) (N := N) (left := left) (n := n) (out := out) (T := T) h hT)
  have HMem := Lib.hid (fun left n h => pickP_mem (t := t) (N := N) (left := left) (n := n) h)
  have HEnd := Lib.hid (fun left c h => takeY_end (pickP t N) left c h)
  have HT0 : Hid ([] ++ takeY (pickP t N) (cnt (fun k => decide (k ∈ l)) N) (fun k => decide (k ∈ l)) = plainL t N l) := Lib.hid rfl
  obtain ⟨T, hT⟩ : ∃ T, plainL t N l = T := ⟨_, rfl⟩
  rw [hT] at HT0 ⊢
  have HLen := Lib.hid (fun left (out : List Nat) (h : out ++ takeY (pickP t N) (cnt left N) left = T) => show out.length ≤ T.length from by rw [← h, List.length_append]; omega)
  have hTN : T.length ≤ 1000 := by
    rw [← hT]
    have h1 := take_mem (pickP t N) N (fun left n h => pickP_mem h) (cnt (fun k => decide (k ∈ l)) N) (fun k => decide (k ∈ l))
    have h2 := cnt_le (fun k => decide (k ∈ l)) N
    unfold plainL
    omega
  clear hR hn hl hG h hN ht hTl hT
  go_enter Try.func11, Try.ntmps11
  go_upto_region 4 with (first
    | (go_at_call 17; refine HIn.out.mono ?_; rintro e w1 ⟨g, rfl, h1⟩; have HO1 := Lib.hid h1; clear h1)
    | (go_at_call 14; refine (HTm.out _ HO1.out.old).mono ?_; rintro e w2 ⟨v2, rfl, ho⟩; obtain ⟨A2, c2, hv2, hl2, had⟩ := ho.shape; rw [HTl.out] at hv2; subst hv2; have HL2 := Lib.hid hl2; have HAd := Lib.hid (fun (ad : Addr) (e : A2 = some ad) => show g < ad.block from by have := had ad e; have := HO1.out.row.lt; omega); have HO2 := Lib.hid (HO1.out.fr ho.2); clear ho hl2 had))
  clear HO1 HIn HTm
  have HRw := HO2.out.row
  have HK2 := Lib.hid (show TkR w w2 w2 g N (fun k => decide (k ∈ l)) (.slice none 0 0) [] from ⟨HO2.out, Fr.refl _ _, World.ownsRow_nil w2 w2.heap.size 3 1, HO2.out.old.size⟩)
  have HYr := Lib.hid (fun left v out wr (hk : TkR w w2 wr g N left v out) => HYg.out g left A2 c2 wr hk.lf.row (HL2.out.fr hk.fr (fun ad e h => by have := HAd.out ad e; have h2 : ad.block = g := h; omega)))
  obtain ⟨pick, hpk⟩ : ∃ p, pickP t N = p := ⟨_, rfl⟩
  rw [hpk] at HStep HMem HEnd HT0 HLen HP
  have HYq := Lib.hid (fun left v out wr (hk : TkR w w2 wr g N left v out) => show Calls Try.prog 22 #[.slice (some ⟨g, 0, none⟩) N N, .slice A2 N c2] wr (fun e w' => ∃ y, e = .returned (.int .i64 y) ∧ yV (pick left) = y ∧ Below wr.heap.size wr w') from by rw [HP.out]; exact (HYr.out left v out wr hk).mono fun e w' ⟨h1, h2⟩ => ⟨_, h1, rfl, h2⟩)
  clear HYr HYg hpk HRw
  go_wp2_with (go_at_call 22; refine (HYq.out _ _ _ _ HK2.out).mono ?_; rintro e w3 ⟨y3, rfl, hy3, b3⟩; have HY3 := Lib.hid hy3; have HK3 := Lib.hid (HK2.out.frF (Fr.of_below (S := fun _ => False) b3)); clear b3 hy3)
  go_loopg [7, 8] N (fun kx s7 s8 wr => ∃ (left : Nat → Bool) (out : List Nat) (v : Value) (y : Int), v = s7 ∧ s8 = .int .i64 y ∧ cnt left N ≤ kx ∧ Hid (yV (pick left) = y) ∧ Hid (TkR w w2 wr g N left v out) ∧ Hid (out ++ takeY pick (cnt left N) left = T))
  case atStart => exact ⟨_, [], _, y3, rfl, rfl, cnt_le _ _, HY3, HK3, HT0⟩
  case round =>
    (
      obtain ⟨left, out, v, y, rfl, rfl, hcx, HY, HK, HTo⟩ := hrel
      obtain ⟨wo, rfl⟩ : ∃ wo, wo = wr := ⟨wr, rfl⟩
      have HLo := Lib.hid (HLen.out left out HTo.out)
      obtain ⟨o, ho⟩ : ∃ o, pick left = o := ⟨_, rfl⟩
      have hyo : yV o = y := by rw [← ho]; exact HY.out
      cases o with
      | none =>
        obtain rfl : y = -1 := hyo.symm
        have HE := Lib.hid (show out = T from by rw [← HTo.out, HEnd.out left _ ho, List.append_nil])
        clear ho hyo
        go_wp2
        go_ret
        exact ⟨v, rfl, by rw [← HE.out]; exact HK.out.done⟩
      | some n =>
        obtain ⟨hnN, hln⟩ := HMem.out left n ho
        have HSt := Lib.hid (HStep.out left n out T ho HTo.out)
        have hcnt := cnt_out left n N hnN hln
        have hn0 : ¬ ((n : Int) < 0) := by omega
        have hn1 : (0 : Int) ≤ (n : Int) := by omega
        have hnz : (n : Int) < (N : Int) := by omega
        have hol := HLo.out
        obtain rfl : y = (n : Int) := hyo.symm
        obtain ⟨wa, hwa⟩ : ∃ w1, wo.alloc (.cells #[.int .i64 (n : Nat)] 3) = w1 := ⟨_, rfl⟩
        have HFa := Lib.hid (show Fr (fun _ => False) wo wa from by subst hwa; exact (Fr.refl (fun _ => False) wo).alloc _)
        have HSrc := Lib.hid (show Src Try.prog 1 23 (.slice (some ⟨wo.heap.size, 0, none⟩) 1 1) 1 (nC [n]) wa from by subst hwa; exact src_one Try.underlying23 wo _ rfl)
        have HKa := Lib.hid (HK.out.frF HFa.out)
        have HBase : Hid (w2.heap.size ≤ wa.heap.size) := Lib.hid HKa.out.fr.size
        clear ho hln hyo HY
        go_wp2_with (first
          | (at_builtin; refine wpList_append_row _ rfl (.tmp 22) (.tmp 24) 23 23 rfl w2.heap.size 3 i0 (.int .i64 0) 1 8 Try.underlying23 hii hz0 hz1 hz2 rfl v out.length (nC out) rfl HKa.out.own (.slice (some ⟨wo.heap.size, 0, none⟩) 1 1) 1 (nC [n]) rfl HSrc.out (by unfold maxLen; omega) (by omega) HBase.out ?_
             intro v' w4 o1 g1 at1
             have HK4 := Lib.hid (HKa.out.grow o1 g1)
             have HK5 := Lib.hid (HK4.out.out n hnN)
             have c4 := HK4.out.lf.row.rcell n hnN
             have f4 := HK4.out.lf.row.frozen n
             simp only [boolC] at c4
             clear o1 g1 at1)
          | (go_at_call 22; refine (HYq.out _ _ _ _ HK5.out).mono ?_; rintro e w6 ⟨y6, rfl, hy6, b6⟩; have HY6 := Lib.hid hy6; have HK6 := Lib.hid (HK5.out.frF (Fr.of_below (S := fun _ => False) b6)); clear b6 hy6)
          | (fail))
        go_roundg (cnt (outB left n) N)
        case measure => omega
        case rel => exact ⟨outB left n, out ++ [n], v', y6, rfl, rfl, Nat.le_refl _, HY6, HK6, HSt⟩)

set_option maxHeartbeats 3200000 in
set_option maxRecDepth 100000 in
theorem QoDate_any (A : Option Addr) (c : Nat) (G : List Nd) (B : Option Addr) (cB : Nat) (l : List Nat) (A2 : Option Addr) (c2 nb : Nat) (by' : List Int) (hR : RightG G) (hn : l.length ≤ 100000) (hl : ∀ x ∈ l, x < G.length) (hb : by'.length = nb) (hnb : G.length ≤ nb) (w : World) (hG : GAt w A G) (h : Lies w B (nC l)) (h2 : Lies w A2 (zC by')) :
    Calls Try.prog 13 #[.slice A G.length c, .slice B l.length cB, .slice A2 nb c2] w fun e w' => ∃ v, e = .returned v ∧ OwnN w w' v (dateL (prG G) (fun n => by'.getD n 0) G.length l) := by
  obtain ⟨i0, hii, hz0, hz1, hz2⟩ := info_parts info_int
  have hlen := hR.len
  have HIn := Lib.hid (QoIn_any A c G.length B cB l (by omega) hn hl w h)
  have HRd := Lib.hid (fun g f w1 (q : Fr (fun _ => False) w w1) h1 => QoReady_any A c G g f hR w1 (hG.fr q) h1)
  have HYg := Lib.hid (fun g f w1 (q : Fr (fun _ => False) w w1) (h1 : Whole w1 g 4 (rowC (boolC f) G.length)) => Qoyoungest_any g G.length f A2 nb c2 by' (by omega) hb hnb w1 h1 (h2.fr q (fun _ _ e => e)))
  obtain ⟨t, ht⟩ : ∃ t : Nat → Int, (fun n => by'.getD n 0) = t := ⟨_, rfl⟩
  rw [ht] at HYg ⊢
  obtain ⟨N, hN⟩ : ∃ N, G.length = N := ⟨_, rfl⟩
  rw [hN] at HIn HRd HYg hlen ⊢
  have HP : Hid (∀ left, pickD (prG G) t N left = yng (rdyB (prG G) N left) t N) := Lib.hid (fun left => rfl)
  have HStep := Lib.hid (fun left n out T h hT => tl_D (pr := prG G) (t := t) (N := N) (left := left) (n := n) (out := out) (T := T) h hT)
  have HMem := Lib.hid (fun left n h => pickD_mem (pr := prG G) (t := t) (N := N) (left := left) (n := n) h)
  have HEnd := Lib.hid (fun left c h => takeY_end (pickD (prG G) t N) left c h)
  have HT0 : Hid ([] ++ takeY (pickD (prG G) t N) (cnt (fun k => decide (k ∈ l)) N) (fun k => decide (k ∈ l)) = dateL (prG G) t N l) := Lib.hid rfl
  obtain ⟨T, hT⟩ : ∃ T, dateL (prG G) t N l = T := ⟨_, rfl⟩
  rw [hT] at HT0 ⊢
  have HLen := Lib.hid (fun left (out : List Nat) (h : out ++ takeY (pickD (prG G) t N) (cnt left N) left = T) => show out.length ≤ T.length from by rw [← h, List.length_append]; omega)
  have hTN : T.length ≤ 1000 := by
    rw [← hT]
    have h1 := take_mem (pickD (prG G) t N) N (fun left n h => pickD_mem h) (cnt (fun k => decide (k ∈ l)) N) (fun k => decide (k ∈ l))
    have h2 := cnt_le (fun k => decide (k ∈ l)) N
    unfold dateL
    omega
  obtain ⟨pick, hpk⟩ : ∃ p, pickD (prG G) t N = p := ⟨_, rfl⟩
  rw [hpk] at HStep HMem HEnd HT0 HLen HP
  have HYq := Lib.hid (fun left g' w1 (q : Fr (fun _ => False) w w1) (h1 : Whole w1 g' 4 (rowC (boolC (rdyB (prG G) N left)) N)) => show Calls Try.prog 22 #[.slice (some ⟨g', 0, none⟩) N N, .slice A2 nb c2] w1 (fun e w' => ∃ y, e = .returned (.int .i64 y) ∧ yV (pick left) = y ∧ Below w1.heap.size w1 w') from by rw [HP.out]; exact (HYg.out g' _ w1 q h1).mono fun e w' ⟨h1, h2⟩ => ⟨_, h1, rfl, h2⟩)
  clear hR hn hl hG h h2 hN ht hb hnb hT hpk HYg
  go_enter Try.func13, Try.ntmps13
  go_upto_region 2 with (go_at_call 17; refine HIn.out.mono ?_; rintro e w2 ⟨g, rfl, h1⟩; have HO2 := Lib.hid h1; clear h1)
  have HK2 := Lib.hid (show TkR w w2 w2 g N (fun k => decide (k ∈ l)) (.slice none 0 0) [] from ⟨HO2.out, Fr.refl _ _, World.ownsRow_nil w2 w2.heap.size 3 1, HO2.out.old.size⟩)
  clear HIn
  go_wp2_with (first
    | (go_at_call 25; refine (HRd.out g _ _ HK2.out.lf.old HK2.out.lf.row).mono ?_; rintro e w7 ⟨g7, rfl, h7⟩; have HK7 := Lib.hid (HK2.out.frF h7.old); have HR7 := Lib.hid h7.row; clear h7)
    | (go_at_call 22; refine (HYq.out _ g7 _ HK7.out.lf.old HR7.out).mono ?_; rintro e w3 ⟨y3, rfl, hy3, b3⟩; have HY3 := Lib.hid hy3; have HK3 := Lib.hid (HK7.out.frF (Fr.of_below (S := fun _ => False) b3)); clear b3 hy3))
  go_loopg [8, 9] N (fun kx s8 s9 wr => ∃ (left : Nat → Bool) (out : List Nat) (v : Value) (y : Int), v = s8 ∧ s9 = .int .i64 y ∧ cnt left N ≤ kx ∧ Hid (yV (pick left) = y) ∧ Hid (TkR w w2 wr g N left v out) ∧ Hid (out ++ takeY pick (cnt left N) left = T))
  case atStart => exact ⟨_, [], _, y3, rfl, rfl, cnt_le _ _, HY3, HK3, HT0⟩
  case round =>
    (
      obtain ⟨left, out, v, y, rfl, rfl, hcx, HY, HK, HTo⟩ := hrel
      obtain ⟨wo, rfl⟩ : ∃ wo, wo = wr := ⟨wr, rfl⟩
      have HLo := Lib.hid (HLen.out left out HTo.out)
      obtain ⟨o, ho⟩ : ∃ o, pick left = o := ⟨_, rfl⟩
      have hyo : yV o = y := by rw [← ho]; exact HY.out
      cases o with
      | none =>
        obtain rfl : y = -1 := hyo.symm
        have HE := Lib.hid (show out = T from by rw [← HTo.out, HEnd.out left _ ho, List.append_nil])
        clear ho hyo
        go_wp2
        go_ret
        exact ⟨v, rfl, by rw [← HE.out]; exact HK.out.done⟩
      | some n =>
        obtain ⟨hnN, hln⟩ := HMem.out left n ho
        have HSt := Lib.hid (HStep.out left n out T ho HTo.out)
        have hcnt := cnt_out left n N hnN hln
        have hn0 : ¬ ((n : Int) < 0) := by omega
        have hn1 : (0 : Int) ≤ (n : Int) := by omega
        have hnz : (n : Int) < (N : Int) := by omega
        have hol := HLo.out
        obtain rfl : y = (n : Int) := hyo.symm
        obtain ⟨wa, hwa⟩ : ∃ w1, wo.alloc (.cells #[.int .i64 (n : Nat)] 3) = w1 := ⟨_, rfl⟩
        have HFa := Lib.hid (show Fr (fun _ => False) wo wa from by subst hwa; exact (Fr.refl (fun _ => False) wo).alloc _)
        have HSrc := Lib.hid (show Src Try.prog 1 23 (.slice (some ⟨wo.heap.size, 0, none⟩) 1 1) 1 (nC [n]) wa from by subst hwa; exact src_one Try.underlying23 wo _ rfl)
        have HKa := Lib.hid (HK.out.frF HFa.out)
        have HBase : Hid (w2.heap.size ≤ wa.heap.size) := Lib.hid HKa.out.fr.size
        clear ho hln hyo HY
        go_wp2_with (first
          | (at_builtin; refine wpList_append_row _ rfl (.tmp 25) (.tmp 27) 23 23 rfl w2.heap.size 3 i0 (.int .i64 0) 1 8 Try.underlying23 hii hz0 hz1 hz2 rfl v out.length (nC out) rfl HKa.out.own (.slice (some ⟨wo.heap.size, 0, none⟩) 1 1) 1 (nC [n]) rfl HSrc.out (by unfold maxLen; omega) (by omega) HBase.out ?_
             intro v' w4 o1 g1 at1
             have HK4 := Lib.hid (HKa.out.grow o1 g1)
             have HK5 := Lib.hid (HK4.out.out n hnN)
             have c4 := HK4.out.lf.row.rcell n hnN
             have f4 := HK4.out.lf.row.frozen n
             simp only [boolC] at c4
             clear o1 g1 at1)
          | (go_at_call 25; refine (HRd.out g _ _ HK5.out.lf.old HK5.out.lf.row).mono ?_; rintro e w8 ⟨g8, rfl, h8⟩; have HK8 := Lib.hid (HK5.out.frF h8.old); have HR8 := Lib.hid h8.row; clear h8)
          | (go_at_call 22; refine (HYq.out _ g8 _ HK8.out.lf.old HR8.out).mono ?_; rintro e w6 ⟨y6, rfl, hy6, b6⟩; have HY6 := Lib.hid hy6; have HK6 := Lib.hid (HK8.out.frF (Fr.of_below (S := fun _ => False) b6)); clear b6 hy6))
        go_roundg (cnt (outB left n) N)
        case measure => omega
        case rel => exact ⟨outB left n, out ++ [n], v', y6, rfl, rfl, Nat.le_refl _, HY6, HK6, HSt⟩)
end Go.Proofs.Ytpaigmmpihcdaaa

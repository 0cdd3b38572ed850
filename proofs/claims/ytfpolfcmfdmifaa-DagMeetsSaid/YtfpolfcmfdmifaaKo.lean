/- What is proved: Heads, Bases, Is, Above of the program. Conditions: the cells are there; at most a thousand numbers a list. -/
import Derived.Test.YtfpolfcmfdmifaaKn
namespace Go.Proofs.Ytfpolfcmfdmifaa
open Go.RowKit Go.Shelf
set_option linter.unusedVariables false

def headL (G : List Nd) (l : List Nat) : List Nat := selB (topB (prG G) G.length (upB (prG G) G.length l)) G.length
def basL (G : List Nd) (a b : Nat) : List Nat := selB (topB (prG G) G.length (bothB (prG G) G.length [a] [b])) G.length
def abvL (G : List Nd) (l : List Nat) : List Nat := selB (upB (prG G) G.length l) G.length
def isB (G : List Nd) (a b : Nat) : Bool := upB (prG G) G.length [b] a
theorem head_which {G : List Nd} (hR : RightG G) (l : List Nat) : selB (fun k => hasF (passM (prG G) G.length (addM (fun _ => 0) 3 l) k) 3 4) G.length = headL G l := selB_congr (fun k hk => hasF_heads hR.dn l k hk)
theorem bas_which {G : List Nd} (hR : RightG G) (a b : Nat) : selB (fun k => hasF (passM (prG G) G.length (addM (addM (fun _ => 0) 1 [a]) 2 [b]) k) 3 4) G.length = basL G a b := selB_congr (fun k hk => hasF_bases hR.dn [a] [b] k hk)
theorem is_has (G : List Nd) (a b : Nat) : decide (passM (prG G) G.length (addM (fun _ => 0) 1 [b]) a &&& 1 = 1) = isB G a b := by
  rw [Bool.eq_iff_iff, decide_eq_true_eq, and1, passB_bit (prG G) 0 hu_bit0, isB, upB]
  have : (fun k => (addM (fun _ => 0) 1 [b] k).testBit 0) = fun k => decide (k ∈ [b]) := by
    funext j
    rw [bit_addM]
    simp
  rw [this]
theorem passB_none (pr : Nat → List Nat) : ∀ c, passB pr c (fun _ => false) = fun _ => false
  | 0 => rfl
  | c + 1 => by
    rw [passB]
    simp only [Bool.false_and, Bool.or_false]
    exact passB_none pr c
theorem upB_nil (pr : Nat → List Nat) (N : Nat) : upB pr N [] = fun _ => false := by
  unfold upB
  have : (fun k => decide (k ∈ ([] : List Nat))) = fun _ => false := by funext k; simp
  rw [this, passB_none]
theorem abv_rng (G : List Nd) (l : List Nat) : rngL G l [] = abvL G l := by
  unfold rngL abvL
  rw [upB_nil]
  simp
theorem nat_of {N : Nat} {z : Int} (h : badZ N z = false) : ∃ n : Nat, z = (n : Int) ∧ n < N ∧ z.toNat = n := ⟨z.toNat, by have := (badZ_no h).1; omega, (badZ_no h).2, rfl⟩

set_option maxHeartbeats 800000 in
set_option maxRecDepth 100000 in
theorem DaHeads_any (A : Option Addr) (c : Nat) (G : List Nd) (B1 : Option Addr) (c1 : Nat) (l1 : List Int) (n1 : l1.length ≤ 1000) (w : World) (hG : GAt w A G) (h1 : Lies w B1 (zC l1)) :
    Calls Try.prog 25 #[.slice A G.length c, .slice B1 l1.length c1] w fun e w' => NumE w w' e (nodE G l1) (headL G (nz l1)) := by
  obtain ⟨w1, hw1⟩ : ∃ w1, w.alloc (.cells #[.slice B1 l1.length c1] 24) = w1 := ⟨_, rfl⟩
  have HF1 := Lib.hid (show Fr (fun _ => False) w w1 from by subst hw1; exact (Fr.refl (fun _ => False) w).alloc _)
  have hW1 : Whole w1 w.heap.size 24 #[.slice B1 l1.length c1] := by subst hw1; exact Whole.new w 24 _
  have HChk := Lib.hid (DacheckAll_any A c G w1 (hG.fr HF1.out) (some ⟨w.heap.size, 0, none⟩) 1 [⟨B1, c1, l1⟩] (by simp) (by simp; exact n1) (LAt.one hW1 (h1.fr HF1.out (fun _ _ e => e))))
  simp only [List.flatMap_cons, List.flatMap_nil, List.append_nil, List.length_cons, List.length_nil, Nat.zero_add] at HChk
  by_cases hE : nodE G l1 = 0
  · obtain ⟨hok, hall⟩ := nodE_zero hE
    have hR := right_of hok
    have HWh := Lib.hid (head_which hR (nz l1))
    rw [hE] at HChk ⊢
    have HNew := Lib.hid (fun w => New_g A c G hR w)
    have HA1 := Lib.hid (fun wb g gm M q w1 h hA => Add_g wb g gm A c G M q 3 l1 B1 c1 hR (by decide) (by decide) hall n1 w1 h hA)
    have HSp := Lib.hid (fun wb g gm M q f w1 h => Spread_g w wb g gm A c G M q hR hG f w1 h)
    have HWc := Lib.hid (fun wb g gm M q w1 (h : Pn wb w1 g gm (.slice A G.length c) G.length M q []) hM => Dawhich_any wb g gm (.slice A G.length c) G.length M q [] 3 4 (by decide) (by decide) hR.len hM w1 h)
    have HL1 := Lib.hid h1
    obtain ⟨N1, hN1⟩ : ∃ n, l1.length = n := ⟨_, rfl⟩
    obtain ⟨N, hN⟩ : ∃ n, G.length = n := ⟨_, rfl⟩
    rw [hN1] at hw1 HA1 ⊢
    rw [hN] at HChk HNew HWc HSp HWh ⊢
    obtain ⟨RL, hRL⟩ : ∃ l, headL G (nz l1) = l := ⟨_, rfl⟩
    rw [hRL] at HWh ⊢
    clear hW1 hG h1 n1 hE hok hall hR hN1 hN hRL
    go_enter Try.func25, Try.ntmps25
    go_wp2_with (first
      | (go_at_call 29; refine HChk.out.mono ?_; rintro e w2 ⟨rfl, b2⟩; have HF2 := Lib.hid (HF1.out.then_below b2); clear b2)
      | (go_at_call 30; refine (HNew.out _).mono ?_; rintro e w3 ⟨g, gm, rfl, hp3⟩; have HP3 := Lib.hid hp3; clear hp3)
      | (go_at_call 34; refine (HWc.out _ g gm _ _ _ HP6.out.1 HP6.out.2).mono ?_; rintro e w7 ⟨v, rfl, ho⟩; have HO := Lib.hid ho; clear ho)
      | (go_at_call 32; refine (HSp.out _ g gm _ _ HF2.out _ HP4.out).mono ?_; rintro e w6 ⟨rfl, q6, hp6⟩; have HP6 := Lib.hid hp6; clear hp6)
      | (go_at_call 31; refine (HA1.out _ g gm _ _ _ HP3.out (HP3.out.lies HF2.out HL1.out)).mono ?_; rintro e w4 ⟨rfl, q4, hp4⟩; have HP4 := Lib.hid hp4; clear hp4))
    go_ret2
    exact ⟨v, rfl, by rw [if_pos rfl, ← HWh.out]; exact HO.out.base HF2.out⟩
  · obtain ⟨E, hEE⟩ : ∃ E, nodE G l1 = E := ⟨_, rfl⟩
    rw [hEE] at hE HChk ⊢
    have HE := Lib.hid hE
    have hen : (E == 0) = false := by simpa using hE
    clear hW1 hG h1 n1 hEE
    go_enter Try.func25, Try.ntmps25
    go_wp2_with (go_at_call 29; refine HChk.out.mono ?_; rintro e w2 ⟨rfl, b2⟩; have HF2 := Lib.hid (HF1.out.then_below b2); clear b2)
    go_ret2
    exact ⟨_, rfl, by rw [if_neg HE.out]; exact OwnN.nil HF2.out⟩

theorem AddF_g (wb : World) (g gm : Nat) (A : Option Addr) (c : Nat) (G : List Nd) (M : Nat → Nat) (q : Value) (m : Nat) (k : Int) (hk : k = (m : Int)) (z : Int) (hR : RightG G) (hm0 : m ≠ 0) (hm : m < 8) (hz : badZ G.length z = false) (w1 : World) (h : Pg wb w1 g gm A c G M q) :
    Calls Try.prog 31 #[.pointer (some ⟨g, 0, none⟩), .int .u8 k, .slice (some ⟨w1.heap.size, 0, none⟩) 1 1] (w1.alloc (.cells #[.int .i64 z] 3)) fun e w' => e = .returned (.tuple #[]) ∧ ∃ q', Pg wb w' g gm A c G (addM M m [z.toNat]) q' := by
  subst hk
  obtain ⟨h1, h2⟩ := fresh_lies h z _ rfl
  exact Add_g wb g gm A c G M q m [z] (some ⟨w1.heap.size, 0, none⟩) 1 hR hm0 hm (fun y hy => by simp at hy; rw [hy]; exact hz) (by simp) _ h1 h2
set_option maxHeartbeats 800000 in
set_option maxRecDepth 100000 in
theorem DaBases_any (A : Option Addr) (c : Nat) (G : List Nd) (a b : Int) (w : World) (hG : GAt w A G) :
    Calls Try.prog 22 #[.slice A G.length c, .int .i64 a, .int .i64 b] w fun e w' => NumE w w' e (nodE G [a, b]) (basL G a.toNat b.toNat) := by
  (
    obtain ⟨w0, hw0⟩ : ∃ w0, w.alloc (.cells #[.int .i64 a, .int .i64 b] 3) = w0 := ⟨_, rfl⟩
    have HF0 := Lib.hid (show Fr (fun _ => False) w w0 from by subst hw0; exact (Fr.refl (fun _ => False) w).alloc _)
    have hW0 : Whole w0 w.heap.size 3 (zC [a, b]).toArray := by subst hw0; exact Whole.new w 3 _
    obtain ⟨w1, hw1⟩ : ∃ w1, w0.alloc (.cells #[.slice (some ⟨w.heap.size, 0, none⟩) 2 2] 24) = w1 := ⟨_, rfl⟩
    have HF1' := Lib.hid (show Fr (fun _ => False) w0 w1 from by subst hw1; exact (Fr.refl (fun _ => False) w0).alloc _)
    have HF1 := Lib.hid (HF0.out.trans HF1'.out (fun _ _ e => e))
    have hW1 : Whole w1 w0.heap.size 24 #[.slice (some ⟨w.heap.size, 0, none⟩) 2 2] := by subst hw1; exact Whole.new w0 24 _
    have HChk := Lib.hid (DacheckAll_any A c G w1 (hG.fr HF1.out) (some ⟨w0.heap.size, 0, none⟩) 1 [⟨some ⟨w.heap.size, 0, none⟩, 2, [a, b]⟩] (by simp) (by simp) (LAt.one hW1 ((Lies.of_whole hW0).fr HF1'.out (fun _ _ e => e))))
    simp only [List.flatMap_cons, List.flatMap_nil, List.append_nil, List.length_cons, List.length_nil, Nat.zero_add] at HChk)
  by_cases hE : nodE G [a, b] = 0
  · obtain ⟨hok, hall⟩ := nodE_zero hE
    have hR := right_of hok
    have HWh := Lib.hid (bas_which hR a.toNat b.toNat)
    rw [hE] at HChk ⊢
    have HNew := Lib.hid (fun w => New_g A c G hR w)
    have HA1 := Lib.hid (fun wb g gm M q w1 h => AddF_g wb g gm A c G M q 1 1 rfl a hR (by decide) (by decide) (hall a (by simp)) w1 h)
    have HA2 := Lib.hid (fun wb g gm M q w1 h => AddF_g wb g gm A c G M q 2 2 rfl b hR (by decide) (by decide) (hall b (by simp)) w1 h)
    have HSp := Lib.hid (fun wb g gm M q f w1 h => Spread_g w wb g gm A c G M q hR hG f w1 h)
    have HWc := Lib.hid (fun wb g gm M q w1 (h : Pn wb w1 g gm (.slice A G.length c) G.length M q []) hM => Dawhich_any wb g gm (.slice A G.length c) G.length M q [] 3 4 (by decide) (by decide) hR.len hM w1 h)
    obtain ⟨N, hN⟩ : ∃ n, G.length = n := ⟨_, rfl⟩
    rw [hN] at HChk HNew HWc HSp HWh ⊢
    obtain ⟨RL, hRL⟩ : ∃ l, basL G a.toNat b.toNat = l := ⟨_, rfl⟩
    rw [hRL] at HWh ⊢
    clear hW0 hW1 hG hE hok hall hR hN hRL
    go_enter Try.func22, Try.ntmps22
    go_wp2_with (first
      | (go_at_call 29; refine HChk.out.mono ?_; rintro e w2 ⟨rfl, b2⟩; have HF2 := Lib.hid (HF1.out.then_below b2); clear b2)
      | (go_at_call 30; refine (HNew.out _).mono ?_; rintro e w3 ⟨g, gm, rfl, hp3⟩; have HP3 := Lib.hid hp3; have M1 := True.intro; clear hp3)
      | (go_at_call 34; refine (HWc.out _ g gm _ _ _ HP6.out.1 HP6.out.2).mono ?_; rintro e w7 ⟨v, rfl, ho⟩; have HO := Lib.hid ho; clear ho)
      | (go_at_call 32; refine (HSp.out _ g gm _ _ HF2.out _ HP5.out).mono ?_; rintro e w6 ⟨rfl, q6, hp6⟩; have HP6 := Lib.hid hp6; clear hp6)
      | (go_at_call 31; have _ := M2; refine (HA2.out _ g gm _ _ _ HP4.out).mono ?_; rintro e w5 ⟨rfl, q5, hp5⟩; have HP5 := Lib.hid hp5; clear hp5)
      | (go_at_call 31; have _ := M1; refine (HA1.out _ g gm _ _ _ HP3.out).mono ?_; rintro e w4 ⟨rfl, q4, hp4⟩; have HP4 := Lib.hid hp4; have M2 := True.intro; clear hp4))
    go_ret2
    exact ⟨v, rfl, by rw [if_pos rfl, ← HWh.out]; exact HO.out.base HF2.out⟩
  · obtain ⟨E, hEE⟩ : ∃ E, nodE G [a, b] = E := ⟨_, rfl⟩
    rw [hEE] at hE HChk ⊢
    have HE := Lib.hid hE
    have hen : (E == 0) = false := by simpa using hE
    clear hW0 hW1 hG hEE
    go_enter Try.func22, Try.ntmps22
    go_wp2_with (go_at_call 29; refine HChk.out.mono ?_; rintro e w2 ⟨rfl, b2⟩; have HF2 := Lib.hid (HF1.out.then_below b2); clear b2)
    go_ret2
    exact ⟨_, rfl, by rw [if_neg HE.out]; exact OwnN.nil HF2.out⟩

set_option maxHeartbeats 800000 in
set_option maxRecDepth 100000 in
theorem DaIs_any (A : Option Addr) (c : Nat) (G : List Nd) (a b : Int) (w : World) (hG : GAt w A G) :
    Calls Try.prog 21 #[.slice A G.length c, .int .i64 a, .int .i64 b] w fun e w' => e = .returned (.tuple #[.bool (if nodE G [a, b] = 0 then isB G a.toNat b.toNat else false), .int .i64 (nodE G [a, b])]) ∧ Below w.heap.size w w' := by
  (
    obtain ⟨w0, hw0⟩ : ∃ w0, w.alloc (.cells #[.int .i64 a, .int .i64 b] 3) = w0 := ⟨_, rfl⟩
    have HF0 := Lib.hid (show Fr (fun _ => False) w w0 from by subst hw0; exact (Fr.refl (fun _ => False) w).alloc _)
    have hW0 : Whole w0 w.heap.size 3 (zC [a, b]).toArray := by subst hw0; exact Whole.new w 3 _
    obtain ⟨w1, hw1⟩ : ∃ w1, w0.alloc (.cells #[.slice (some ⟨w.heap.size, 0, none⟩) 2 2] 24) = w1 := ⟨_, rfl⟩
    have HF1' := Lib.hid (show Fr (fun _ => False) w0 w1 from by subst hw1; exact (Fr.refl (fun _ => False) w0).alloc _)
    have HF1 := Lib.hid (HF0.out.trans HF1'.out (fun _ _ e => e))
    have hW1 : Whole w1 w0.heap.size 24 #[.slice (some ⟨w.heap.size, 0, none⟩) 2 2] := by subst hw1; exact Whole.new w0 24 _
    have HChk := Lib.hid (DacheckAll_any A c G w1 (hG.fr HF1.out) (some ⟨w0.heap.size, 0, none⟩) 1 [⟨some ⟨w.heap.size, 0, none⟩, 2, [a, b]⟩] (by simp) (by simp) (LAt.one hW1 ((Lies.of_whole hW0).fr HF1'.out (fun _ _ e => e))))
    simp only [List.flatMap_cons, List.flatMap_nil, List.append_nil, List.length_cons, List.length_nil, Nat.zero_add] at HChk)
  by_cases hE : nodE G [a, b] = 0
  · obtain ⟨hok, hall⟩ := nodE_zero hE
    have hR := right_of hok
    obtain ⟨a', haa, haN, hat⟩ := nat_of (hall a (by simp))
    rw [hE] at HChk ⊢
    rw [if_pos rfl]
    have HNew := Lib.hid (fun w => New_g A c G hR w)
    have HA1 := Lib.hid (fun wb g gm M q w1 h => AddF_g wb g gm A c G M q 1 1 rfl b hR (by decide) (by decide) (hall b (by simp)) w1 h)
    have HSp := Lib.hid (fun wb g gm M q f w1 h => Spread_g w wb g gm A c G M q hR hG f w1 h)
    have HHas := Lib.hid (fun (hm : passM (prG G) G.length (addM (fun _ => 0) 1 [b.toNat]) a' < 8) w => by have := Dahas_any _ 1 hm (by decide) w; rw [is_has G a' b.toNat] at this; exact this)
    obtain ⟨N, hN⟩ : ∃ n, G.length = n := ⟨_, rfl⟩
    rw [hN] at HChk HNew HSp HHas haN ⊢
    rw [hat]
    subst haa
    have haz : (a' : Int) < (N : Int) := by omega
    have ha0 : (0 : Int) ≤ (a' : Int) := by omega
    have HNa := Lib.hid haN
    obtain ⟨RL, hRL⟩ : ∃ l, isB G a' b.toNat = l := ⟨_, rfl⟩
    rw [hRL] at HHas ⊢
    clear hW0 hW1 hG hE hok hall hR hN hRL hat haN
    go_enter Try.func21, Try.ntmps21
    go_wp2_with (first
      | (go_at_call 29; refine HChk.out.mono ?_; rintro e w2 ⟨rfl, b2⟩; have HF2 := Lib.hid (HF1.out.then_below b2); clear b2)
      | (go_at_call 30; refine (HNew.out _).mono ?_; rintro e w3 ⟨g, gm, rfl, hp3⟩; have HP3 := Lib.hid hp3; clear hp3)
      | (go_at_call 33; refine (HHas.out (HP6.out.2 a') _).mono ?_; rintro e w7 ⟨rfl, rfl⟩)
      | (go_at_call 32; refine (HSp.out _ g gm _ _ HF2.out _ HP4.out).mono ?_; rintro e w6 ⟨rfl, q6, hp6⟩; have HP6 := Lib.hid hp6; have c1 := hp6.1.pb.cell 1; have cm := hp6.1.mark a' HNa.out; simp only [List.getElem?_toArray, List.getElem?_cons_succ, List.getElem?_cons_zero] at c1; clear hp6)
      | (go_at_call 31; refine (HA1.out _ g gm _ _ _ HP3.out).mono ?_; rintro e w4 ⟨rfl, q4, hp4⟩; have HP4 := Lib.hid hp4; clear hp4))
    go_ret2
    exact ⟨rfl, (HF2.out.trans HP6.out.1.qb.2 (fun _ _ e => e)).below (fun _ _ e => e)⟩
  · obtain ⟨E, hEE⟩ : ∃ E, nodE G [a, b] = E := ⟨_, rfl⟩
    rw [hEE] at hE HChk ⊢
    rw [if_neg hE]
    have hen : (E == 0) = false := by simpa using hE
    clear hW0 hW1 hG hEE
    go_enter Try.func21, Try.ntmps21
    go_wp2_with (go_at_call 29; refine HChk.out.mono ?_; rintro e w2 ⟨rfl, b2⟩; have HF2 := Lib.hid (HF1.out.then_below b2); clear b2)
    go_ret2
    exact ⟨rfl, HF2.out.below (fun _ _ e => e)⟩

set_option maxHeartbeats 800000 in
theorem DaAbove_any (A : Option Addr) (c : Nat) (G : List Nd) (B1 : Option Addr) (c1 : Nat) (l1 : List Int) (n1 : l1.length ≤ 1000) (w : World) (hG : GAt w A G) (h1 : Lies w B1 (zC l1)) :
    Calls Try.prog 17 #[.slice A G.length c, .slice B1 l1.length c1] w fun e w' => NumE w w' e (nodE G l1) (abvL G (nz l1)) := by
  have HRg := Lib.hid (DaRange_any A c G B1 c1 l1 none 0 [] n1 (by simp) w hG h1 (.inl rfl))
  rw [List.append_nil, show nz [] = [] from rfl, abv_rng, List.length_nil] at HRg
  obtain ⟨E, hE⟩ : ∃ E, nodE G l1 = E := ⟨_, rfl⟩
  obtain ⟨RL, hRL⟩ : ∃ l, abvL G (nz l1) = l := ⟨_, rfl⟩
  rw [hE, hRL] at HRg ⊢
  clear hG h1 hE hRL
  go_enter Try.func17, Try.ntmps17
  go_wp2_with (go_at_call 24; refine HRg.out.mono ?_; rintro e w2 ⟨v, rfl, ho⟩; have HO := Lib.hid ho; clear ho)
  go_ret2
  exact ⟨v, rfl, HO.out⟩
end Go.Proofs.Ytfpolfcmfdmifaa

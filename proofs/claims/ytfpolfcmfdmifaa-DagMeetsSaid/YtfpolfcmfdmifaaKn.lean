/- What is proved: Range, Heads, Bases, Is, Above of the program. Conditions: the cells are there; at most a thousand numbers a list. -/
import Derived.Test.YtfpolfcmfdmifaaKm
import Derived.Test.YtfpolfcmfdmifaaKi
namespace Go.Proofs.Ytfpolfcmfdmifaa
open Go.RowKit Go.Shelf
set_option linter.unusedVariables false

/-- Numbers that are nodes' as natural ones. -/
def nz (l : List Int) : List Nat := l.map Int.toNat
theorem nz_len (l : List Int) : (nz l).length = l.length := by simp [nz]
theorem nz_zC {l : List Int} (h : ∀ z ∈ l, 0 ≤ z) : zC l = nC (nz l) := by
  unfold zC nC nz
  rw [List.map_map]
  apply List.map_congr_left
  intro z hz
  have := h z hz
  simp only [Function.comp]
  congr 1
  omega
theorem badZ_no {N : Nat} {z : Int} (h : badZ N z = false) : 0 ≤ z ∧ z.toNat < N := by
  unfold badZ at h
  rw [Bool.or_eq_false_iff, decide_eq_false_iff_not, decide_eq_false_iff_not] at h
  omega
theorem nz_lt {N : Nat} {l : List Int} (h : ∀ z ∈ l, badZ N z = false) : ∀ x ∈ nz l, x < N := by
  intro x hx
  obtain ⟨z, hz, rfl⟩ := List.mem_map.1 hx
  exact (badZ_no (h z hz)).2
theorem nodE_zero {G : List Nd} {l : List Int} (h : nodE G l = 0) : okG G = true ∧ ∀ z ∈ l, badZ G.length z = false := by
  unfold nodE at h
  by_cases e : okG G = true
  · rw [if_pos e] at h
    refine ⟨e, fun z hz => ?_⟩
    rw [Bool.eq_false_iff]
    intro hb
    have : l.any (badZ G.length) = true := List.any_eq_true.2 ⟨z, hz, hb⟩
    rw [if_pos this] at h
    exact absurd h (by decide)
  · rw [if_neg e] at h; exact absurd h (by decide)
theorem right_of {G : List Nd} (h : okG G = true) : RightG G := by
  unfold okG at h
  rw [Bool.and_eq_true, decide_eq_true_eq, Bool.not_eq_true', List.any_eq_false] at h
  have key : ∀ n (hn : n < G.length), G[n].ps.length ≤ 6 ∧ ∀ z ∈ G[n].ps, 0 ≤ z ∧ z < (n : Int) := by
    intro n hn
    have h1 := h.2 n (List.mem_range.2 hn)
    rw [getD_nd G n hn] at h1
    have h2 : okN n G[n] = true := by simpa using h1
    unfold okN at h2
    rw [Bool.and_eq_true, Bool.and_eq_true, Bool.and_eq_true, decide_eq_true_eq, Bool.not_eq_true', List.any_eq_false] at h2
    refine ⟨h2.1, fun z hz => ?_⟩
    obtain ⟨i, hi, rfl⟩ := List.getElem_of_mem hz
    have h3 := h2.2.2.2 i (List.mem_range.2 hi)
    have h4 : badP n G[n].ps i = false := by simpa using h3
    unfold badP at h4
    rw [List.getD_eq_getElem?_getD, List.getElem?_eq_getElem hi, Option.getD_some, Bool.or_eq_false_iff, Bool.or_eq_false_iff, decide_eq_false_iff_not, decide_eq_false_iff_not] at h4
    omega
  refine ⟨h.1, fun n hn p hp => ?_, fun n hn => ?_, fun n hn => ⟨?_, ?_⟩⟩
  · unfold prG at hp
    rw [getD_nd G n hn] at hp
    obtain ⟨z, hz, rfl⟩ := List.mem_map.1 hp
    have := (key n hn).2 z hz
    omega
  · unfold prG
    rw [getD_nd G n hn, List.length_map]
    exact (key n hn).1
  · unfold prG
    rw [getD_nd G n hn]
    exact nz_zC (fun z hz => ((key n hn).2 z hz).1)
  · unfold prG
    rw [getD_nd G n hn, List.length_map]
theorem Mk8.zero : Mk8 (fun _ => 0) := fun _ => (by decide : 0 < 8)
theorem Mk8.pass (pr : Nat → List Nat) : ∀ (c : Nat) {M : Nat → Nat}, Mk8 M → Mk8 (passM pr c M)
  | 0, _, h => h
  | c + 1, M, h => Mk8.pass pr c (h.add (hu8 (h c)) _)
theorem on_zero (N : Nat) : selB (onB (fun _ => 0)) N = [] := by
  unfold selB
  rw [List.filter_eq_nil_iff]
  intro k _
  simp [onB]
theorem OwnN.base {w0 w1 w2 : World} {v : Value} {l : List Nat} (h : OwnN w1 w2 v l) (f : Fr (fun _ => False) w0 w1) : OwnN w0 w2 v l := by
  refine ⟨⟨h.1.1, ?_⟩, f.trans h.2 (fun _ _ e => e)⟩
  rcases h.1.2 with h0 | ⟨g, cap, cur, hv, hb, r⟩
  · exact .inl h0
  · exact .inr ⟨g, cap, cur, hv, Nat.le_trans f.size hb, r⟩
theorem LAt.two {w : World} {g : Nat} {x y : Il} {t : TypeId} (hW : Whole w g t #[.slice x.A x.l.length x.c, .slice y.A y.l.length y.c]) (hx : Lies w x.A (zC x.l)) (hy : Lies w y.A (zC y.l)) : LAt w (some ⟨g, 0, none⟩) [x, y] := by
  intro w' f i hi
  refine ⟨g, 0, rfl, ?_⟩
  have hW' := hW.fr f (fun e => e)
  match i, hi with
  | 0, _ => exact ⟨by rw [hW'.cell]; rfl, hx.fr f (fun _ _ e => e)⟩
  | 1, _ => exact ⟨by rw [hW'.cell]; rfl, hy.fr f (fun _ _ e => e)⟩
theorem LAt.one {w : World} {g : Nat} {x : Il} {t : TypeId} (hW : Whole w g t #[.slice x.A x.l.length x.c]) (hx : Lies w x.A (zC x.l)) : LAt w (some ⟨g, 0, none⟩) [x] := by
  intro w' f i hi
  refine ⟨g, 0, rfl, ?_⟩
  have hW' := hW.fr f (fun e => e)
  match i, hi with
  | 0, _ => exact ⟨by rw [hW'.cell]; rfl, hx.fr f (fun _ _ e => e)⟩
/-- A painting of a graph. -/
def Pg (wb w : World) (g gm : Nat) (A : Option Addr) (c : Nat) (G : List Nd) (M : Nat → Nat) (q : Value) : Prop := Pn wb w g gm (.slice A G.length c) G.length M q (selB (onB M) G.length) ∧ Mk8 M
theorem New_g (A : Option Addr) (c : Nat) (G : List Nd) (hR : RightG G) (w : World) : Calls Try.prog 30 #[.slice A G.length c] w fun e w' => ∃ g gm, e = .returned (.pointer (some ⟨g, 0, none⟩)) ∧ Pg w w' g gm A c G (fun _ => 0) (.slice none 0 0) :=
  (DanewP_any A G.length c hR.len w).mono fun e w' ⟨g, gm, he, h⟩ => ⟨g, gm, he, by rw [on_zero]; exact h, Mk8.zero⟩
theorem Add_g (wb : World) (g gm : Nat) (A : Option Addr) (c : Nat) (G : List Nd) (M : Nat → Nat) (q : Value) (m : Nat) (l : List Int) (B : Option Addr) (cB : Nat) (hR : RightG G) (hm0 : m ≠ 0) (hm : m < 8) (hl : ∀ z ∈ l, badZ G.length z = false) (hn : l.length ≤ 1000) (w1 : World)
    (h : Pg wb w1 g gm A c G M q) (hA : ∀ w', Fr (PF g gm q) w1 w' → Lies w' B (zC l)) :
    Calls Try.prog 31 #[.pointer (some ⟨g, 0, none⟩), .int .u8 m, .slice B l.length cB] w1 fun e w' => e = .returned (.tuple #[]) ∧ ∃ q', Pg wb w' g gm A c G (addM M m (nz l)) q' := by
  have := Daadd_any wb g gm (.slice A G.length c) G.length M q G.length m (nz l) B cB hR.len (Nat.le_refl _) h.2 hm0 hm (nz_lt hl) (by rw [nz_len]; exact hn) w1 h.1 (fun w' f => by rw [← nz_zC (fun z hz => (badZ_no (hl z hz)).1)]; exact hA w' f)
  rw [nz_len] at this
  exact this.mono fun e w' ⟨he, q', hp, _, _⟩ => ⟨he, q', hp, h.2.add hm _⟩
theorem Spread_g (w0 wb : World) (g gm : Nat) (A : Option Addr) (c : Nat) (G : List Nd) (M : Nat → Nat) (q : Value) (hR : RightG G) (hG : GAt w0 A G) (f : Fr (fun _ => False) w0 wb) (w1 : World) (h : Pg wb w1 g gm A c G M q) :
    Calls Try.prog 32 #[.pointer (some ⟨g, 0, none⟩)] w1 fun e w' => e = .returned (.tuple #[]) ∧ ∃ q', Pn wb w' g gm (.slice A G.length c) G.length (passM (prG G) G.length M) q' [] ∧ Mk8 (passM (prG G) G.length M) :=
  (Daspread_any wb g gm A c G M q hR h.2 w1 h.1 (hG.fr f)).mono fun e w' ⟨he, q', hp⟩ => ⟨he, q', hp, Mk8.pass _ _ h.2⟩
theorem fresh_lies {wb w1 : World} {g gm : Nat} {A : Option Addr} {c : Nat} {G : List Nd} {M : Nat → Nat} {q : Value} (h : Pg wb w1 g gm A c G M q) (z : Int) (w2 : World) (hw : w1.alloc (.cells #[.int .i64 z] 3) = w2) :
    Pg wb w2 g gm A c G M q ∧ ∀ w', Fr (PF g gm q) w2 w' → Lies w' (some ⟨w1.heap.size, 0, none⟩) (zC [z]) := by
  subst hw
  refine ⟨⟨h.1.fr ((Fr.refl (fun _ => False) w1).alloc _), h.2⟩, fun w' f => ?_⟩
  have hW : Whole (w1.alloc (.cells #[.int .i64 z] 3)) w1.heap.size 3 #[.int .i64 z] := Whole.new w1 3 _
  refine Lies.of_whole (t := 3) (hW.fr f (fun e => ?_))
  rcases e with e | e | e
  · have := h.1.pb.lt; omega
  · have := h.1.mb.lt; omega
  · have := own_lt h.1.qb.1 e; omega
/-- What a call leaves that answers numbers, or an error. -/
def NumE (w w' : World) (e : Ending) (E : Int) (l : List Nat) : Prop := ∃ v, e = .returned (.tuple #[v, .int .i64 E]) ∧ OwnN w w' v (if E = 0 then l else [])
def rngL (G : List Nd) (a b : List Nat) : List Nat := selB (fun k => upB (prG G) G.length a k && !upB (prG G) G.length b k) G.length
theorem rng_which (G : List Nd) (a b : List Nat) : selB (fun k => hasF (passM (prG G) G.length (addM (addM (fun _ => 0) 1 a) 2 b) k) 1 2) G.length = rngL G a b := selB_congr (fun k _ => hasF_range (prG G) G.length a b k)
theorem Pg.lies {w0 wb w1 : World} {g gm : Nat} {A : Option Addr} {c : Nat} {G : List Nd} {M : Nat → Nat} {q : Value} (h : Pg wb w1 g gm A c G M q) (f : Fr (fun _ => False) w0 wb) {B : Option Addr} {xs : List Value} (hl : Lies w0 B xs) : ∀ w', Fr (PF g gm q) w1 w' → Lies w' B xs := fun w' f' =>
  hl.fr (f.trans (h.1.old f') (fun _ _ e => e)) (fun _ _ e => e)

set_option maxHeartbeats 3200000 in
set_option maxRecDepth 100000 in
theorem DaRange_any (A : Option Addr) (c : Nat) (G : List Nd) (B1 : Option Addr) (c1 : Nat) (l1 : List Int) (B2 : Option Addr) (c2 : Nat) (l2 : List Int) (n1 : l1.length ≤ 1000) (n2 : l2.length ≤ 1000) (w : World) (hG : GAt w A G) (h1 : Lies w B1 (zC l1)) (h2 : Lies w B2 (zC l2)) :
    Calls Try.prog 24 #[.slice A G.length c, .slice B1 l1.length c1, .slice B2 l2.length c2] w fun e w' => NumE w w' e (nodE G (l1 ++ l2)) (rngL G (nz l1) (nz l2)) := by
  obtain ⟨w1, hw1⟩ : ∃ w1, w.alloc (.cells #[.slice B1 l1.length c1, .slice B2 l2.length c2] 24) = w1 := ⟨_, rfl⟩
  have HF1 := Lib.hid (show Fr (fun _ => False) w w1 from by subst hw1; exact (Fr.refl (fun _ => False) w).alloc _)
  have hW1 : Whole w1 w.heap.size 24 #[.slice B1 l1.length c1, .slice B2 l2.length c2] := by subst hw1; exact Whole.new w 24 _
  have HChk := Lib.hid (DacheckAll_any A c G w1 (hG.fr HF1.out) (some ⟨w.heap.size, 0, none⟩) 2 [⟨B1, c1, l1⟩, ⟨B2, c2, l2⟩] (by simp) (by simp; exact ⟨n1, n2⟩) (LAt.two hW1 (h1.fr HF1.out (fun _ _ e => e)) (h2.fr HF1.out (fun _ _ e => e))))
  simp only [List.flatMap_cons, List.flatMap_nil, List.append_nil, List.length_cons, List.length_nil, Nat.zero_add, Nat.reduceAdd] at HChk
  have HWh := Lib.hid (rng_which G (nz l1) (nz l2))
  by_cases hE : nodE G (l1 ++ l2) = 0
  · obtain ⟨hok, hall⟩ := nodE_zero hE
    have hR := right_of hok
    rw [hE] at HChk ⊢
    have HNew := Lib.hid (fun w => New_g A c G hR w)
    have HA1 := Lib.hid (fun wb g gm M q w1 h hA => Add_g wb g gm A c G M q 1 l1 B1 c1 hR (by decide) (by decide) (fun z hz => hall z (List.mem_append_left _ hz)) n1 w1 h hA)
    have HA2 := Lib.hid (fun wb g gm M q w1 h hA => Add_g wb g gm A c G M q 2 l2 B2 c2 hR (by decide) (by decide) (fun z hz => hall z (List.mem_append_right _ hz)) n2 w1 h hA)
    have HSp := Lib.hid (fun wb g gm M q f w1 h => Spread_g w wb g gm A c G M q hR hG f w1 h)
    have HWc := Lib.hid (fun wb g gm M q w1 (h : Pn wb w1 g gm (.slice A G.length c) G.length M q []) hM => Dawhich_any wb g gm (.slice A G.length c) G.length M q [] 1 2 (by decide) (by decide) hR.len hM w1 h)
    have HL1 := Lib.hid h1
    have HL2 := Lib.hid h2
    obtain ⟨N1, hN1⟩ : ∃ n, l1.length = n := ⟨_, rfl⟩
    obtain ⟨N2, hN2⟩ : ∃ n, l2.length = n := ⟨_, rfl⟩
    obtain ⟨N, hN⟩ : ∃ n, G.length = n := ⟨_, rfl⟩
    rw [hN1, hN2] at hw1 ⊢
    rw [hN1] at HA1
    rw [hN2] at HA2
    have HN := Lib.hid hN
    rw [hN] at HChk HNew HWc HSp HWh ⊢
    obtain ⟨RL, hRL⟩ : ∃ l, rngL G (nz l1) (nz l2) = l := ⟨_, rfl⟩
    rw [hRL] at HWh ⊢
    clear hW1 hG h1 h2 n1 n2 hE hok hall hR hN1 hN2 hN hRL
    go_enter Try.func24, Try.ntmps24
    go_wp2_with (first
      | (go_at_call 29; refine HChk.out.mono ?_; rintro e w2 ⟨rfl, b2⟩; have HF2 := Lib.hid (HF1.out.then_below b2); clear b2)
      | (go_at_call 30; refine (HNew.out _).mono ?_; rintro e w3 ⟨g, gm, rfl, hp3⟩; have HP3 := Lib.hid hp3; have M1 := True.intro; clear hp3)
      | (go_at_call 34; refine (HWc.out _ g gm _ _ _ HP6.out.1 HP6.out.2).mono ?_; rintro e w7 ⟨v, rfl, ho⟩; have HO := Lib.hid ho; clear ho)
      | (go_at_call 32; refine (HSp.out _ g gm _ _ HF2.out _ HP5.out).mono ?_; rintro e w6 ⟨rfl, q6, hp6⟩; have HP6 := Lib.hid hp6; clear hp6)
      | (go_at_call 31; have _ := M2; refine (HA2.out _ g gm _ _ _ HP4.out (HP4.out.lies HF2.out HL2.out)).mono ?_; rintro e w5 ⟨rfl, q5, hp5⟩; have HP5 := Lib.hid hp5; clear hp5)
      | (go_at_call 31; have _ := M1; refine (HA1.out _ g gm _ _ _ HP3.out (HP3.out.lies HF2.out HL1.out)).mono ?_; rintro e w4 ⟨rfl, q4, hp4⟩; have HP4 := Lib.hid hp4; have M2 := True.intro; clear hp4))
    go_ret2
    exact ⟨v, rfl, by rw [if_pos rfl, ← HWh.out]; exact HO.out.base HF2.out⟩
  · obtain ⟨E, hEE⟩ : ∃ E, nodE G (l1 ++ l2) = E := ⟨_, rfl⟩
    rw [hEE] at hE HChk ⊢
    have HE := Lib.hid hE
    have hen : (E == 0) = false := by simpa using hE
    clear hW1 hG h1 h2 n1 n2 hEE HWh
    go_enter Try.func24, Try.ntmps24
    go_wp2_with (go_at_call 29; refine HChk.out.mono ?_; rintro e w2 ⟨rfl, b2⟩; have HF2 := Lib.hid (HF1.out.then_below b2); clear b2)
    go_ret2
    exact ⟨_, rfl, by rw [if_neg HE.out]; exact OwnN.nil HF2.out⟩
end Go.Proofs.Ytfpolfcmfdmifaa

/- What is proved: whether a filter has a key, by the program. Conditions: the filter's cells are there; at most a hundred million bytes. -/
import Derived.Test.YtgmohgofcjemkaaDoorNp
import Derived.Test.YtgmohgofcjemkaaDoorNc
namespace Go.Proofs.YtgmohgofcjemkaaDoor
open Go.RowKit Go.Shelf
set_option linter.unusedVariables false

theorem Whole.notLoop {w : World} {g g' : Nat} {t : TypeId} {cs : Array Value} (h : Whole w g t cs) (hl : ∃ o, w.heap[g']? = some (.loop o)) : g ≠ g' := by
  rintro rfl
  obtain ⟨o, hl⟩ := hl
  unfold Whole at h
  rw [h] at hl
  cases hl
theorem Whole.apartN {w : World} {g g' : Nat} {t t' : TypeId} {cs cs' : Array Value} (h : Whole w g t cs) (h' : Whole w g' t' cs') (hne : t ≠ t') : g ≠ g' := by
  rintro rfl
  unfold Whole at h h'
  rw [h] at h'
  injection h' with h'
  injection h' with _ h'
  exact hne h'
theorem Whole.notDef {w : World} {g g' : Nat} {t : TypeId} {cs : Array Value} (h : Whole w g t cs) (hl : ∃ o, w.heap[g']? = some (.deferred o)) : g ≠ g' := by
  rintro rfl
  obtain ⟨o, hl⟩ := hl
  unfold Whole at h
  rw [h] at hl
  cases hl
theorem bit_and (q : Nat) (h : q < 256) : bits .and .u8 (q : Int) 1 = ((q % 2 : Nat) : Int) := by
  rw [u8_and (q : Int) 1 (by omega) (by omega) (by omega) (by omega), Int.toNat_natCast]
  exact congrArg Nat.cast (Nat.and_two_pow_sub_one_eq_mod q 1)
theorem bitB_eq (f : List UInt8) (n : Nat) : bitB f n = decide ((f.getD (n / 8) 0).toNat / 2 ^ (n % 8) % 2 = 1) := rfl
theorem getD_lt256 (f : List UInt8) (i : Nat) : (f.getD i 0).toNat < 256 := (f.getD i 0).toNat_lt

theorem results_cell1 {P : Program} {fn : Func} {p : Tmp} {ty : TypeId} (h : fn.results = #[.cell p ty]) (tmps : Array Value) (w : World) (g : Nat) (v : Value)
    (hp : tmps.getD p undef = .pointer (some ⟨g, 0, none⟩)) (ha : (isAgg ty).run P w = .ok false w) (hc : w.cell? ⟨g, 0, none⟩ = some v) :
    (results fn tmps).run P w = .ok v w := by
  have hp' : tmps[p]?.getD undef = .pointer (some ⟨g, 0, none⟩) := by simpa using hp
  simp [results, h, hp', asAddr, loadVar, Sem.run_bind, ha, go_sem, hc]

/-- Between two rounds. -/
structure HsI (w : World) (f : List UInt8) (bf br bk bg : Nat) (A : Option Addr) (n c : Nat) (S : ByteArray) (W : World) : Prop where
  fr : Fr (fun _ => False) w W
  wf : Whole W bf 27 #[.slice A n c]
  wr : Whole W br 4 #[.bool false]
  wg : Whole W bg 27 #[.slice A n c]
  wk : Whole W bk 9 #[.string S]
theorem HsI.keep {w : World} {f : List UInt8} {bf br bk bg : Nat} {A : Option Addr} {n c : Nat} {S : ByteArray} {W W' : World} {T : Nat → Prop} (h : HsI w f bf br bk bg A n c S W) (q : Fr T W W') (h0 : ∀ i, i < w.heap.size → ¬ T i) (h1 : ¬ T bf) (h2 : ¬ T br) (h3 : ¬ T bg) (h4 : ¬ T bk) : HsI w f bf br bk bg A n c S W' :=
  ⟨h.fr.trans q (fun i hi e => (h0 i hi e).elim), h.wf.fr q h1, h.wr.fr q h2, h.wg.fr q h3, h.wk.fr q h4⟩

set_option maxHeartbeats 3200000 in
set_option maxRecDepth 100000 in
theorem Has_any (A : Option Addr) (c : Nat) (f : List UInt8) (key : List UInt8) (hf : f.length ≤ 100000000) (hk : key.length ≤ 4611686018427387904) (w : World) (h : Lies w A (bytesV f)) :
    Calls Tryd.prog 12 #[.slice A f.length c, .string (strB key)] w fun e w' => e = .returned (.bool (hasB f key)) ∧ Fr (fun _ => False) w w' := by
  by_cases h0 : f.length = 0
  · have HE : Hid (hasB f key = true) := Lib.hid (by unfold hasB; rw [List.eq_nil_of_length_eq_zero h0]; rfl)
    rw [HE.out, h0]
    obtain ⟨S, hS⟩ : ∃ S, strB key = S := ⟨_, rfl⟩
    rw [hS]
    have HFr := Lib.hid (((Fr.refl (fun _ => False) w).alloc (.cells #[.slice A 0 c] 27)).alloc (.cells #[.bool true] 4))
    have HWt := Lib.hid (by have h9 := Whole.new (w.alloc (.cells #[.slice A 0 c] 27)) 4 #[.bool true]; rw [World.size_alloc] at h9; exact h9)
    clear h hS HE h0 hf
    go_enter Tryd.func12, Tryd.ntmps12
    go_wp2
    refine bodyPost_ret (results_cell1 (p := 4) rfl _ _ (w.heap.size + 1) (.bool true) rfl (by kernel_rfl) (HWt.out.cell 0)) rfl ?_
    exact ⟨rfl, HFr.out⟩
  · have HSq := Lib.hid (fun bk bf (l : Nat) (W : World) J Jx h1 h2 h3 => Places1_any l bk bf A f.length c key hk (by omega) hf W J Jx h1 h2 h3)
    have HV : Hid (hasB f key = (plL key (8 * f.length)).all (bitB f)) := Lib.hid (by
      unfold hasB
      rw [show (f == []) = false from by cases f with | nil => simp at h0 | cons a f => rfl, Bool.false_or])
    have HG : Hid (∀ k, k < 7 → (plL key (8 * f.length)).getD k 0 = plI (hsA key) (hsB key) (8 * f.length) k ∧ plI (hsA key) (hsB key) (8 * f.length) k < 8 * f.length) := Lib.hid (fun k hk => by
      unfold plL
      rw [plT_get _ _ _ _ _ hk]
      exact ⟨rfl, (plI_nat _ _ _ _ (by omega)).2⟩)
    have HLn : Hid ((plL key (8 * f.length)).length = 7) := Lib.hid (by unfold plL; exact plT_len _ _ _ _)
    have HAll : Hid ((∀ k, k < 7 → bitB f (plI (hsA key) (hsB key) (8 * f.length) k) = true) → hasB f key = true) := Lib.hid (fun hh => by
      rw [HV.out]
      exact all_get (fun k hk => by rw [HLn.out] at hk; rw [(HG.out k hk).1]; exact hh k hk))
    have HNot : Hid (∀ k, k < 7 → bitB f (plI (hsA key) (hsB key) (8 * f.length) k) = false → hasB f key = false) := Lib.hid (fun k hk hh => by
      rw [HV.out]
      exact all_not (by rw [HLn.out]; exact hk) (by rw [(HG.out k hk).1]; exact hh))
    have HPl := Lib.hid (fun k hk => (HG.out k hk).2)
    have HBt := Lib.hid (bitB_eq f)
    have HB2 := Lib.hid (getD_lt256 f)
    have HC := Lib.hid (fun w' (q : Fr (fun _ => False) w w') k (hk : k < f.length) => lies_u8 h q k hk)
    obtain ⟨V, hV⟩ : ∃ V, hasB f key = V := ⟨_, rfl⟩
    rw [hV] at HAll HNot ⊢
    obtain ⟨pl, hpl⟩ : ∃ pl, plI (hsA key) (hsB key) (8 * f.length) = pl := ⟨_, rfl⟩
    rw [hpl] at HAll HNot HPl HSq
    obtain ⟨S, hS⟩ : ∃ S, strB key = S := ⟨_, rfl⟩
    obtain ⟨n, hn⟩ : ∃ n, f.length = n := ⟨_, rfl⟩
    rw [hS, hn] at HSq
    rw [hn] at HPl HC hf h0
    rw [hS, hn]
    have hnz : ((n : Int) == 0) = false := by simpa using h0
    clear h hV hpl hS hn HV HG HLn hk
    refine (callsIn_wide (n := 9)).1 (callsIn_of_wp_marks Tryd.func12 rfl trivial ?_ rfl)
    simp only [Tryd.ntmps12, List.size_toArray, List.length_cons, List.length_nil, Nat.reduceAdd, Nat.reduceSub, Array.replicate_succ, Array.replicate_zero, List.push_toArray, List.append_toArray, List.nil_append, List.cons_append]
    refine wpIn_wide.2 ?_
    go_wp2_with (go_at_call 19
                 refine (Places_any A n c S _).mono ?_
                 rintro e w1 ⟨rfl, hw1⟩)
    rw [← hw1]
    have HI0 := Lib.hid (show HsI w f w.heap.size (w.heap.size + 1) (w.heap.size + 1 + 1 + 1) (w.heap.size + 1 + 1) A n c S w1 from by
      subst hw1
      have f1 : Fr (fun _ => False) w (w.alloc (.cells #[.slice A n c] 27)) := (Fr.refl _ w).alloc _
      have a1 := Whole.new w 27 #[.slice A n c]
      have a2 := Whole.new (w.alloc (.cells #[.slice A n c] 27)) 4 #[.bool false]
      have a3 := Whole.new ((w.alloc (.cells #[.slice A n c] 27)).alloc (.cells #[.bool false] 4)) 27 #[.slice A n c]
      have a4 := Whole.new (((w.alloc (.cells #[.slice A n c] 27)).alloc (.cells #[.bool false] 4)).alloc (.cells #[.slice A n c] 27)) 9 #[.string S]
      simp only [World.size_alloc] at a2 a3 a4
      have ff : ∀ (W : World) o, Fr (fun _ => False) W (W.alloc o) := fun W o => (Fr.refl _ W).alloc o
      exact ⟨((f1.alloc _).alloc _).alloc _, ((a1.fr (ff _ _) (fun e => e)).fr (ff _ _) (fun e => e)).fr (ff _ _) (fun e => e), (a2.fr (ff _ _) (fun e => e)).fr (ff _ _) (fun e => e), a3.fr (ff _ _) (fun e => e), a4⟩)
    have HS1 := Lib.hid (show w1.heap.size = w.heap.size + 4 from by subst hw1; simp)
    obtain ⟨bs, hbs⟩ : ∃ bs, w.heap.size = bs := ⟨_, rfl⟩
    have HBs := Lib.hid hbs
    rw [hbs] at HI0 HS1
    clear hw1
    simp only [hbs]
    clear hbs
    refine (wpIn_wide (n := 9)).1 ?_
    refine range_leave (gf := 32) (lb := #[.pointer (some ⟨bs + 1 + 1 + 1, 0, none⟩), .pointer (some ⟨bs + 1 + 1, 0, none⟩)]) rfl (enters_of Tryd.func32 (by kernel_rfl) rfl) 7 (fun k => #[.int .u64 (pl k : Nat)]) (fun _ => rfl) (PlRd (bs + 1 + 1 + 1) (bs + 1 + 1) A n c S) ?seq
      (fun k W => HsI w f bs (bs + 1) (bs + 1 + 1 + 1) (bs + 1 + 1) A n c S W ∧ ∀ j, j < k → bitB f (pl j) = true)
      (fun k W => HsI w f bs (bs + 1) (bs + 1 + 1 + 1) (bs + 1 + 1) A n c S W ∧ ∃ j, j < k ∧ bitB f (pl j) = false) ?fr ?frx ?rd ?zero ?round ?done ?stop
    case seq =>
      intro l9 W J Jx hj0 hjr hjy
      exact HSq.out _ _ l9 W J Jx hj0 hjr hjy
    case fr =>
      rintro k W W' ⟨hi, hb⟩ q hl
      have h1 := HS1.out; have h2 := HBs.out
      exact ⟨hi.keep q (fun i hi e => by omega) (fun e => by omega) (fun e => by omega) (fun e => by omega) (fun e => by omega), hb⟩
    case frx =>
      rintro k W W' ⟨hi, hb⟩ q hl
      have h1 := HS1.out; have h2 := HBs.out
      exact ⟨hi.keep q (fun i hi e => by omega) (fun e => by omega) (fun e => by omega) (fun e => by omega) (fun e => by omega), hb⟩
    case rd =>
      rintro k W ⟨hi, hb⟩
      exact ⟨hi.wk.cell 0, hi.wg.cell 0⟩
    case zero =>
      intro W q
      exact ⟨HI0.out.keep q (fun _ _ e => e) (fun e => e) (fun e => e) (fun e => e) (fun e => e), fun j hj => by omega⟩
    case round =>
      intro l9 k Wk hik hkP Kk hKk
      have HK := Lib.hid hKk
      have HIk := Lib.hid hik
      clear hKk hik
      refine wpIn_region_lit ?_
      refine wpListIn_of_wpList (fun ⟨_, _, h⟩ => h) _ (by intro o ho c; simp only [List.mem_cons, List.not_mem_nil, or_false] at ho; rcases ho with rfl; simp) _ _ ?_
      go_wp2
      refine HK.out _ (fun Wb hib hlb hdb => ?_)
      clear HK
      have HIb := Lib.hid hib
      have HLb := Lib.hid hlb
      have HDb := Lib.hid hdb
      have cf := hib.1.wf.cell 0
      have hpk := HPl.out k hkP
      have hbt := HBt.out (pl k)
      obtain ⟨b9, o9, hA9, cx⟩ := HC.out Wb hib.1.fr (pl k / 8) (by omega)
      subst hA9
      have hb2 := HB2.out (pl k / 8)
      have HNk := Lib.hid (fun e => (⟨k, by omega, e⟩ : ∃ j, j < k + 1 ∧ bitB f (pl j) = false))
      have HAk := Lib.hid (fun e => (fun j hj => (by omega : j < k ∨ j = k).elim (hib.2 j) (fun e2 => by rw [e2]; exact e) : ∀ j, j < k + 1 → bitB f (pl j) = true))
      obtain ⟨p, hp⟩ : ∃ p, pl k = p := ⟨_, rfl⟩
      rw [hp] at hpk hbt cx hb2 HNk HAk ⊢
      obtain ⟨q, hq⟩ : ∃ q, p / 8 = q := ⟨_, rfl⟩
      obtain ⟨r, hr⟩ : ∃ r, p % 8 = r := ⟨_, rfl⟩
      obtain ⟨x, hx⟩ : ∃ x, (f.getD q 0).toNat = x := ⟨_, rfl⟩
      rw [hq, hx] at cx hb2
      rw [hq, hr, hx] at hbt
      obtain ⟨t, ht⟩ : ∃ t, bitB f p = t := ⟨_, rfl⟩
      rw [ht] at hbt HNk HAk
      have hr8 : r < 8 := by omega
      have e1 : (p : Int).tdiv 8 = (q : Int) := by rw [Int.tdiv_eq_ediv_of_nonneg (by omega)]; omega
      have e2 : (p : Int).tmod 8 = (r : Int) := by rw [Int.tmod_eq_emod_of_nonneg (by omega)]; omega
      have hq0 : (0 : Int) ≤ (q : Int) := by omega
      have hqn : (q : Int) < (n : Int) := by omega
      obtain ⟨y, hy⟩ : ∃ y, x / 2 ^ r = y := ⟨_, rfl⟩
      have hy8 : y < 256 := by rw [← hy]; exact Nat.lt_of_le_of_lt (Nat.div_le_self _ _) hb2
      have e3 : (x : Int) / 2 ^ r = (y : Int) := by rw [← hy]; push_cast; rfl
      have hba := bit_and y hy8
      rw [hy] at hbt
      clear hib hlb hdb hp hq hr hx ht hy
      refine wpIn_block ?_
      refine wpIn_seq ?_
      refine wpIn_region_lit ?_
      refine wpListIn_of_wpList (fun ⟨_, _, h⟩ => by rcases h.1 with h | h <;> cases h.1) _ (by intro o ho c; simp only [List.mem_cons, List.not_mem_nil, or_false] at ho; rcases ho with rfl | rfl | rfl | rfl | rfl | rfl | rfl | rfl | rfl | rfl <;> simp) _ _ ?_
      go_wp2
      clear cx hba e1 e2 e3 cf
      cases t
      · have hz : (((y : Int) % 2) == 0) = true := by have := of_decide_eq_false hbt.symm; simp; omega
        rw [hz]
        clear hz hbt hy8 hq0 hqn hb2 hr8 hpk
        refine wpIn_cond_true rfl ?_
        refine wpIn_seq ?_
        refine wpIn_region_lit ?_
        refine wpListIn_of_wpList (fun ⟨_, _, h⟩ => by rcases h.1 with h | h <;> cases h.1) _ (by intro o ho c; simp only [List.mem_cons, List.not_mem_nil, or_false] at ho; rcases ho with rfl; simp) _ _ ?_
        have cr := HIb.out.1.wr.cell 0
        have fr := HIb.out.1.wr.frozenN 0
        go_wp2
        have h1 := HS1.out
        have h2 := HBs.out
        have hst : Fr (fun j => j = bs + 1) Wb (Wb.setCell ⟨bs + 1, 0, none⟩ (.bool false)) := Fr.setCell (S := fun j => j = bs + 1) (p := ⟨bs + 1, 0, none⟩) (Fr.refl _ Wb) (fun _ => rfl) _
        have hi := HIb.out.1
        refine wpIn_ret ?_
        refine ⟨.inr ⟨rfl, ⟨hi.fr.trans hst (fun i hi e => by omega), hi.wf.fr hst (fun e => by omega), hi.wr.set 0 (.bool false), hi.wg.fr hst (fun e => by omega), hi.wk.fr hst (fun e => by omega)⟩, HNk.out (by simp)⟩, hst.mono (fun i _ e => ?_)⟩
        have g1 := hi.wr.notLoop HLb.out
        have g2 := hi.wr.notDef HDb.out
        exact ⟨fun e2 => g2 (by omega), fun e2 => g1 (by omega)⟩
      · have hz : (((y : Int) % 2) == 0) = false := by have := of_decide_eq_true hbt.symm; simp; omega
        rw [hz]
        refine wpIn_cond_false rfl ?_
        refine wpIn_skip ?_
        exact ⟨.inl ⟨rfl, HIb.out.1, HAk.out (by simp)⟩, (Fr.refl _ Wb).mono (T := fun j => j ≠ w1.heap.size ∧ j ≠ w1.heap.size + 1) (fun i _ e => e)⟩
    case done =>
      rintro W ⟨hi, hb⟩ hd
      have HT := Lib.hid (HAll.out hb)
      have cr := hi.wr.cell 0
      have fr := hi.wr.frozenN 0
      have g2 := Lib.hid (hi.wr.notDef ⟨_, hd⟩)
      have HIb := Lib.hid hi
      have HDb := Lib.hid hd
      have hst : Fr (fun j => j = bs + 1) W (W.setCell ⟨bs + 1, 0, none⟩ (.bool true)) := Fr.setCell (S := fun j => j = bs + 1) (p := ⟨bs + 1, 0, none⟩) (Fr.refl _ W) (fun _ => rfl) _
      have HSt := Lib.hid hst
      clear hb hi hd hst
      simp only [Exit.inBlock, Exit.then]
      go_wp2
      have hd2 := (HSt.out.block _ (Array.getElem?_eq_some_iff.1 HDb.out).1 (fun e => g2.out (by omega))).trans HDb.out
      refine ⟨by simp, .inl ⟨_, _, rfl, run_takeDeferred hd2, ?_⟩⟩
      have hst2 : Fr (fun j => j = w1.heap.size) (W.setCell ⟨bs + 1, 0, none⟩ (.bool true)) ((W.setCell ⟨bs + 1, 0, none⟩ (.bool true)).putObj w1.heap.size (.deferred none)) := ⟨rfl, rfl, rfl, by simp, fun k _ hk => World.putObj_heap_other hk⟩
      refine ⟨_, results_cell1 (p := 4) rfl _ _ (bs + 1) (.bool true) rfl (by kernel_rfl) (((HIb.out.wr.set 0 (.bool true)).fr hst2 (fun e => g2.out e)).cell 0), ?_⟩
      have h1 := HS1.out
      have h2 := HBs.out
      exact ⟨by rw [HT.out], (HIb.out.fr.trans HSt.out (fun i hi e => by omega)).trans hst2 (fun i hi e => by omega)⟩
    case stop =>
      rintro k W hk7 ⟨hi, j, hj, hb⟩ hd
      have HT := Lib.hid (HNot.out j (by omega) hb)
      have g2 := Lib.hid (hi.wr.notDef ⟨_, hd⟩)
      have HIb := Lib.hid hi
      have HDb := Lib.hid hd
      clear hb hi hd
      refine (wpIn_wide (n := 9)).2 ?_
      go_wp2
      refine ⟨by simp, .inl ⟨_, _, rfl, run_takeDeferred HDb.out, ?_⟩⟩
      have hst2 : Fr (fun j => j = w1.heap.size) W (W.putObj w1.heap.size (.deferred none)) := ⟨rfl, rfl, rfl, by simp, fun k _ hk => World.putObj_heap_other hk⟩
      refine ⟨_, results_cell1 (p := 4) rfl _ _ (bs + 1) (.bool false) rfl (by kernel_rfl) ((HIb.out.wr.fr hst2 (fun e => g2.out e)).cell 0), ?_⟩
      have h1 := HS1.out
      have h2 := HBs.out
      exact ⟨by rw [HT.out], HIb.out.fr.trans hst2 (fun i hi e => by omega)⟩
end Go.Proofs.YtgmohgofcjemkaaDoor

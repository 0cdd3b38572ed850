/- What is proved: what the walks of this seat need of layers below, merged out of the texts Rwe Rwf Rwj Rwk (of each just what is needed). Conditions: each theorem names its own. -/
import Derived.Test.YtddckehejdpjcabGreatDoorBe
/- What is proved: the line of a word, by the document. Conditions: the word has no byte 10; the text is not too long. -/
namespace Go.Proofs.YtddckehejdpjcabGreatDoor
open Go.RowKit Go.Sort Go.Shelf
set_option linter.unusedVariables false
theorem slice_mid {P : Program} (w : World) {t : TypeId} (h : P.underlying t = some .string) (l : List UInt8) (a b : Nat) (hab : a ≤ b) (hb : b ≤ l.length) : (Instr.slice t (.string (strB l)) (some (.int .i64 a)) (some (.int .i64 b)) none).run P w = .ok (.string (strB ((l.take b).drop a))) w := by
  rw [run_slice_string_if w t _ .i64 .i64 a b h, if_pos ⟨by omega, by rw [strB_size]; omega⟩, if_pos ⟨by omega, by omega⟩, strB_extract]
  simp
/-- What the document's call answers. -/
def LineIs (G : Option (List UInt8 × List UInt8)) (e : Ending) : Prop := match G with
  | some (t, r) => e = .returned (.tuple #[.string (strB t), .string (strB r), .bool true])
  | none => e = .returned (.tuple #[.string (strB []), .string (strB []), .bool false])
theorem LineIs.no {G : Option (List UInt8 × List UInt8)} {e : Ending} (h : G = none) (he : e = .returned (.tuple #[.string (strB []), .string (strB []), .bool false])) : LineIs G e := by subst h; exact he
theorem LineIs.yes {G : Option (List UInt8 × List UInt8)} {e : Ending} {t r : List UInt8} (h : G = some (t, r)) (he : e = .returned (.tuple #[.string (strB t), .string (strB r), .bool true])) : LineIs G e := by subst h; exact he
set_option maxHeartbeats 3200000 in
set_option maxRecDepth 100000 in
theorem QvLine_any (word s : List UInt8) (hw : word.length ≤ 100) (hn : ∀ b ∈ word, b ≠ 10) (hs : s.length ≤ 1000000) (w : World) :
    Calls Tryz.prog 24 #[.string (strB s), .string (strB word)] w fun e w' => LineIs (takeL word s) e ∧ Below w.heap.size w w' := by
  have HIX := Lib.hid (fun k hk w => index_str (P := Tryz.prog) w Tryz.underlying9 s k hk)
  have hss := strB_size s
  have hws := strB_size word
  have hla := lnA_len s
  have hfacts : (∀ k, k < (lnA s).length → s.getD k 0 ≠ 10) ∧ ((lnA s).length < s.length → s.getD (lnA s).length 0 = 10) ∧ (has10 s = false → (lnA s).length = s.length) ∧ (has10 s = true → (lnA s).length < s.length ∧ lnB s = s.drop ((lnA s).length + 1) ∧ lnA s = s.take (lnA s).length) := by
    rcases idx10_cases s with ⟨_, h1, h2, h3, h4⟩ | ⟨m, _, hml, h0, h1, h2, h3, h4⟩
    · rw [h3]
      refine ⟨fun k hk => ?_, fun h => absurd h (Nat.lt_irrefl _), fun _ => rfl, fun h => by rw [h2] at h; cases h⟩
      rw [List.getD_eq_getElem?_getD, List.getElem?_eq_getElem hk]
      exact h1 _ (List.getElem_mem _)
    · have hlen : (lnA s).length = m := by rw [h3, List.length_take]; omega
      rw [hlen]
      refine ⟨fun k hk => ?_, fun _ => ?_, fun h => (by rw [h2] at h; cases h), fun _ => ⟨hml, h4, h3⟩⟩
      · rw [List.getD_eq_getElem?_getD, List.getElem?_eq_getElem (by omega)]
        refine h1 _ ?_
        rw [List.mem_take_iff_getElem]
        exact ⟨k, by omega, rfl⟩
      · rw [h0, List.getD_eq_getElem?_getD, List.getElem?_append_right (by rw [List.length_take]; omega), List.length_take, show m - min m s.length = 0 by omega]
        rfl
  have HFA := Lib.hid hfacts
  have hpre := pre_take (word ++ [32]) s
  have hbw : (word ++ [32]).isPrefixOf s = begW word s := rfl
  rw [hbw, List.length_append, List.length_singleton] at hpre
  have HPRE := Lib.hid hpre
  have HWF := Lib.hid (fun h1 h2 => word_fits (word := word) (s := s) hn h1 h2)
  have HTS := Lib.hid (fun h1 h2 => takeL_some (word := word) (s := s) h1 h2)
  have HTN := Lib.hid (fun h1 => takeL_no (word := word) (s := s) h1)
  have HTN2 := Lib.hid (fun h1 => takeL_none (word := word) (s := s) h1)
  obtain ⟨G, hG⟩ : ∃ G, takeL word s = G := ⟨_, rfl⟩
  rw [hG] at HTS HTN HTN2 ⊢
  have hadd : ∀ w, (Op.stringOp .add (strB word) (ByteArray.mk #[32])).run Tryz.prog w = .ok (.string (strB (word ++ [32]))) w := fun w => add_str word [32] (by simp; omega) w
  have HST := Lib.hid (fun (k : Nat) (hk : k ≤ s.length) w => slice_to (P := Tryz.prog) w Tryz.underlying9 s k hk)
  have HSF := Lib.hid (fun (k : Nat) (hk : k ≤ s.length) w => slice_from (P := Tryz.prog) w Tryz.underlying9 s k hk)
  have HSM := Lib.hid (fun (a b : Nat) (hab : a ≤ b) (hb : b ≤ s.length) w => slice_mid (P := Tryz.prog) w Tryz.underlying9 s a b hab hb)
  have HEQ := Lib.hid (str_eq (s.take (word.length + 1)) (word ++ [32]))
  obtain ⟨n, hn'⟩ : ∃ n, s.length = n := ⟨_, rfl⟩
  obtain ⟨wl, hwl⟩ : ∃ n, word.length = n := ⟨_, rfl⟩
  obtain ⟨M, hM⟩ : ∃ n, (lnA s).length = n := ⟨_, rfl⟩
  rw [hn'] at HIX hss hla HFA HPRE HST HSF HSM hs
  rw [hwl] at hws HPRE HWF HTS HEQ hw
  rw [hM] at hla HFA HWF
  obtain ⟨S, hS⟩ : ∃ S, strB s = S := ⟨_, rfl⟩
  obtain ⟨W, hW⟩ : ∃ S, strB word = S := ⟨_, rfl⟩
  obtain ⟨X, hX⟩ : ∃ S, strB (word ++ [32]) = S := ⟨_, rfl⟩
  obtain ⟨Y, hY⟩ : ∃ S, strB (s.take (wl + 1)) = S := ⟨_, rfl⟩
  have HYY := Lib.hid hY
  rw [hS] at HIX hss HST HSF HSM ⊢
  rw [hW] at hws hadd ⊢
  rw [hX] at hadd HEQ
  rw [hY] at HEQ
  have w1 := wrap_n1 wl (by omega)
  clear hG hpre hbw hn' hwl hM hS hW hX hY hfacts hn
  go_enter Tryz.func24, Tryz.ntmps24
  go_wp2
  go_loopw [7] (fun i wr => ∃ k : Nat, k ≤ M ∧ i = .int .i64 k ∧ w = wr) (fun i _ => M - (intOf i).toNat)
  case atStart => exact ⟨0, by omega, rfl, rfl⟩
  case round =>
    obtain ⟨k, hk, rfl, rfl⟩ := hrel
    have wk1 := wrap_k1 k (by omega)
    have wk2 := wrap_n1 k (by omega)
    by_cases hkM : k < M
    · have hk0 : (k : Int) < n := by omega
      have hixk := fun w => HIX.out k (by omega) w
      have hne := HFA.out.1 k hkM
      obtain ⟨x, hx⟩ : ∃ x : Int, ((s.getD k 0).toNat : Int) = x := ⟨_, rfl⟩
      have hb : (x == 10) = false := by
        rw [beq_eq_false_iff_ne, ← hx]
        intro h
        exact hne (UInt8.toNat_inj.1 (by show _ = 10; omega))
      rw [hx] at hixk
      clear hx hne
      go_wp2_with fail
      go_roundw
      case rel => exact ⟨k + 1, by omega, by go_num, by first | rfl | trivial⟩
      case measure => simp [intOf]; omega
    · obtain rfl : k = M := by omega
      cases h10 : has10 s with
      | false =>
        have hMn := HFA.out.2.2.1 h10
        have hG := HTN2.out h10
        have HGn := Lib.hid hG
        clear hG
        obtain rfl : k = n := by omega
        clear h10
        go_wp2_with fail
        go_ret3
        exact ⟨LineIs.no HGn.out rfl, (Fr.refl (fun _ => False) w).below (fun _ _ e => e)⟩
      | true =>
        obtain ⟨hMn, hlB, hlA⟩ := HFA.out.2.2.2 h10
        have hk0 : (k : Int) < n := by omega
        have hkn : ((k : Int) == n) = false := by rw [beq_eq_false_iff_ne]; omega
        have hixk := fun w => HIX.out k hMn w
        rw [HFA.out.2.1 hMn, show ((10 : UInt8).toNat : Int) = 10 from rfl] at hixk
        by_cases hfit : k < wl + 1
        · have hfz : (k : Int) < (wl : Int) + 1 := by omega
          have hb : begW word s = false := by
            cases hx : begW word s with
            | false => rfl
            | true => have := HWF.out hx h10; omega
          have HGn := Lib.hid (HTN.out hb)
          clear h10 hlB hlA hb
          go_wp2_with fail
          go_ret3
          exact ⟨LineIs.no HGn.out rfl, (Fr.refl (fun _ => False) w).below (fun _ _ e => e)⟩
        · have hfz : ¬ (k : Int) < (wl : Int) + 1 := by omega
          have hst : ∀ w, (Instr.slice 9 (.string S) none (some (.int .i64 ((wl : Int) + 1))) none).run Tryz.prog w = .ok (.string Y) w := fun w => by have := HST.out (wl + 1) (by omega) w; rw [HYY.out] at this; exact this
          have he := HEQ.out
          have hp := HPRE.out
          rw [decide_eq_true (by omega), Bool.true_and] at hp
          cases hb : begW word s with
          | false =>
            rw [hb] at hp
            rw [← hp] at he
            have HGn := Lib.hid (HTN.out hb)
            clear h10 hlB hlA hb hp
            have hne : ¬ Y.toList = X.toList := by simpa using he
            go_wp2_with fail
            go_ret3
            exact ⟨LineIs.no HGn.out rfl, (Fr.refl (fun _ => False) w).below (fun _ _ e => e)⟩
          | true =>
            rw [hb] at hp
            rw [← hp] at he
            have HGs := Lib.hid (HTS.out hb h10)
            rw [hlB] at HGs
            have hsm : ∀ w, (Instr.slice 9 (.string S) (some (.int .i64 ((wl : Int) + 1))) (some (.int .i64 k)) none).run Tryz.prog w = .ok (.string (strB ((lnA s).drop (wl + 1)))) w := fun w => by have := HSM.out (wl + 1) k (by omega) (by omega) w; rw [← hlA] at this; exact this
            have hsf : ∀ w, (Instr.slice 9 (.string S) (some (.int .i64 ((k : Int) + 1))) none none).run Tryz.prog w = .ok (.string (strB (s.drop (k + 1)))) w := fun w => HSF.out (k + 1) (by omega) w
            obtain ⟨S2, hS2⟩ : ∃ S, strB ((lnA s).drop (wl + 1)) = S := ⟨_, rfl⟩
            obtain ⟨S3, hS3⟩ : ∃ S, strB (s.drop (k + 1)) = S := ⟨_, rfl⟩
            have HE2 := Lib.hid hS2
            have HE3 := Lib.hid hS3
            rw [hS2] at hsm
            rw [hS3] at hsf
            have hye : Y.toList = X.toList := by simpa using he
            clear h10 hlB hlA hb hp hS2 hS3
            go_wp2_with fail
            go_region
            go_wp2
            go_ret3
            refine ⟨LineIs.yes HGs.out (by rw [HE2.out, HE3.out]; rfl), ?_⟩
            first | exact (Fr.refl (fun _ => False) w).below (fun _ _ e => e) | exact ((Fr.refl (fun _ => False) w).drew).below (fun _ _ e => e)
end Go.Proofs.YtddckehejdpjcabGreatDoor
/- What is proved: bytes as a commit, by the document. Conditions: the bytes' cells are there, not too many. -/
namespace Go.Proofs.YtddckehejdpjcabGreatDoor
open Go.RowKit Go.Sort Go.Shelf
open Ids (idC dgt big idC_size idC_get idC_one cellD zero32 size32 dgt_lt hexB)
set_option linter.unusedVariables false
/-- How reading a commit ends. -/
def GetPost (w : World) (X : RevP × Int) (e : Ending) (w' : World) : Prop := ∃ v, e = .returned (.tuple #[.agg (revC X.1.T v X.1.a X.1.n X.1.t), .int .i64 X.2]) ∧ OwnI w w' v X.1.ps
theorem GetPost.bad {w w' : World} {X : RevP × Int} {e : Ending} {k : Int} (h : X = (zeroP, k)) (he : e = .returned (.tuple #[.agg zeroR, .int .i64 k])) (f : Fr (fun _ => False) w w') : GetPost w X e w' := by
  subst h
  exact ⟨.slice none 0 0, by rw [he, zeroR_eq]; rfl, OwnI.nil f⟩
theorem GetPost.good {w w' : World} {X : RevP × Int} {e : Ending} {R : RevP} {v : Value} (h : X = (R, 0)) (he : e = .returned (.tuple #[.agg (revC R.T v R.a R.n R.t), .int .i64 0])) (o : OwnI w w' v R.ps) : GetPost w X e w' := by
  subst h
  exact ⟨v, he, o⟩
/-- What stands while a commit is read. -/
structure Qk (w wr : World) (g8 base : Nat) (T : Nat) (v : Value) (ps : List Nat) (a : List UInt8) (n : Int) (t : List UInt8) : Prop where
  fr : Fr (fun _ => False) w wr
  zero : Whole wr w.heap.size 50 zeroR
  rev : RevAt wr (w.heap.size + 1) T v a n t
  box : ∃ cx, Whole wr g8 32 cx ∧ cx.size = 32
  own : wr.ownsRow base 32 32 v ps.length (flatI ps)
  lt1 : w.heap.size + 1 < g8
  lt2 : g8 < base
section
variable {w wr w' : World} {g8 base : Nat} {T : Nat} {v : Value} {ps : List Nat} {a : List UInt8} {n : Int} {t : List UInt8}
theorem Qk.later (h : Qk w wr g8 base T v ps a n t) (f : Fr (fun _ => False) wr w') : Qk w w' g8 base T v ps a n t := by
  obtain ⟨cx, h1, h2⟩ := h.box
  exact ⟨h.fr.trans f (fun _ _ e => e), h.zero.fr f (fun e => e), h.rev.fr f, ⟨cx, h1.fr f (fun e => e), h2⟩, own_fr h.own f (fun _ _ e => e), h.lt1, h.lt2⟩
theorem Qk.boxed (h : Qk w wr g8 base T v ps a n t) {cx : Array Value} (hw : Whole w' g8 32 cx) (hc : cx.size = 32) (f : Fr (fun k => k = g8) wr w') : Qk w w' g8 base T v ps a n t := by
  have l1 := h.lt1
  have l2 := h.lt2
  have hwr := h.fr.size
  exact ⟨h.fr.trans f (fun i hi e => by omega), h.zero.fr f (fun e => by omega), Whole.fr h.rev f (fun e => by omega), ⟨cx, hw, hc⟩, own_fr h.own f (fun k hk e => by have := (World.ownsRow.lt h.own k hk).1; omega), l1, l2⟩
theorem Qk.put (h : Qk w wr g8 base T v ps a n t) {p : Addr} (hp : p.block = w.heap.size + 1) (u : Value) {a' : List UInt8} {n' : Int} {t' : List UInt8} (hr : RevAt (wr.setCell p u) (w.heap.size + 1) T v a' n' t') : Qk w (wr.setCell p u) g8 base T v ps a' n' t' := by
  have l1 := h.lt1
  have l2 := h.lt2
  have f : Fr (fun k => k = w.heap.size + 1) wr (wr.setCell p u) := Fr.setCell (S := fun k => k = w.heap.size + 1) (Fr.refl _ wr) (fun _ => hp) u
  obtain ⟨cx, h1, h2⟩ := h.box
  exact ⟨h.fr.trans f (fun i hi e => by omega), h.zero.fr f (fun e => by omega), hr, ⟨cx, h1.fr f (fun e => by omega), h2⟩, own_fr h.own f (fun k hk e => by have := (World.ownsRow.lt h.own k hk).1; omega), l1, l2⟩
theorem Qk.grown (h : Qk w wr g8 base T v ps a n t) {v' : Value} {m : Nat}
    (o : w'.ownsRow base 32 32 v' (ps.length + 1) (flatI ps ++ flatI [m])) (gr : wr.grownBy w' v.ownBlock) (hsz : base ≤ wr.heap.size) : RevAt w' (w.heap.size + 1) T v a n t ∧ Qk w (w'.setCell ⟨w.heap.size + 1, 32, none⟩ v') g8 base T v' (ps ++ [m]) a n t := by
  have l1 := h.lt1
  have l2 := h.lt2
  have f : Fr (fun k => v.ownBlock = some k) wr w' := (Fr.refl _ wr).grown gr (fun k hk _ => hk)
  have hb : ∀ k, v.ownBlock = some k → base ≤ k := fun k hk => (World.ownsRow.lt h.own k hk).1
  have hr : RevAt w' (w.heap.size + 1) T v a n t := Whole.fr h.rev f (fun e => by have := hb _ e; omega)
  have f2 : Fr (fun k => k = w.heap.size + 1) w' (w'.setCell ⟨w.heap.size + 1, 32, none⟩ v') := Fr.setCell (S := fun k => k = w.heap.size + 1) (p := ⟨w.heap.size + 1, 32, none⟩) (Fr.refl _ w') (fun _ => rfl) v'
  obtain ⟨cx, h1, h2⟩ := h.box
  refine ⟨hr, (h.fr.trans f (fun i hi e => by have := hb i e; omega)).trans f2 (fun i hi e => by omega), (h.zero.fr f (fun e => by have := hb _ e; omega)).fr f2 (fun e => by omega), hr.setV v', ⟨cx, (h1.fr f (fun e => by have := hb _ e; omega)).fr f2 (fun e => by omega), h2⟩, ?_, l1, l2⟩
  have o2 := own_fr o f2 (fun k hk e => by have := (World.ownsRow.lt o k hk).1; omega)
  rw [List.length_append, List.length_singleton, flatI_append]
  exact o2
end
theorem readI_none {t : List UInt8} (h : readI t = none) : (Ids.rdE (strB t) == 0) = false := by
  rcases readI_cases t with ⟨m, h1, _⟩ | ⟨_, h2⟩
  · rw [h] at h1; cases h1
  · simpa using h2
theorem idL_cases (word s : List UInt8) : (takeL word s = none ∧ idL word s = none) ∨ (∃ t r, takeL word s = some (t, r) ∧ readI t = none ∧ idL word s = none) ∨ ∃ t r n, takeL word s = some (t, r) ∧ idL word s = some (n, r) ∧ n < big ∧ Ids.rdE (strB t) = 0 ∧ idC (Ids.rdA (strB t)) = idC (dgt n) := by
  rcases h : takeL word s with _ | ⟨t, r⟩
  · exact .inl ⟨rfl, by rw [idL, h]⟩
  · rcases readI_cases t with ⟨m, h1, h2, h3, h4⟩ | ⟨h1, h2⟩
    · exact .inr (.inr ⟨t, r, m, rfl, by rw [idL, h]; simp only []; rw [h1], h2, h3, h4⟩)
    · exact .inr (.inl ⟨t, r, rfl, h1, by rw [idL, h]; simp only []; rw [h1]⟩)
theorem wpList_build_oneP {ops : Array Oper} {rest : List Oper} {o : Oper} {a : Act} {w : World} {Q : Exit → Act → World → Prop} (hgd : o.guard = none) (x : Operand) (ho : o.op = .buildSlice 48 1 #[(0, x)])
    (n : Nat) (c : Array Value) (hc : idC (dgt n) = c) (hx : a.eval x = .agg c) (h : wpList Tryz.prog ops Q rest (a.put o.dst (.slice (some ⟨w.heap.size, 0, none⟩) 1 1)) (w.alloc (.cells c 32))) : wpList Tryz.prog ops Q (o :: rest) a w := by
  subst hc
  exact wpList_build_one hgd x ho (dgt n) hx h
set_option maxHeartbeats 12800000 in
set_option maxRecDepth 100000 in
theorem QvGet_any (A : Option Addr) (c : Nat) (l : List UInt8) (hl : l.length ≤ 100000) (w : World) (h : Lies w A (bytesV l)) :
    Calls Tryz.prog 12 #[.slice A l.length c] w (GetPost w (getR l)) := by
  obtain ⟨w1, hw1⟩ : ∃ w1, w.alloc (.cells zeroR 50) = w1 := ⟨_, rfl⟩
  obtain ⟨w2, hw2⟩ : ∃ w2, w1.alloc (.cells zeroR 50) = w2 := ⟨_, rfl⟩
  have hF1 : Fr (fun _ => False) w w1 := by subst hw1; exact (Fr.refl _ w).alloc _
  have hF2 : Fr (fun _ => False) w1 w2 := by subst hw2; exact (Fr.refl _ w1).alloc _
  have hsz1 : w1.heap.size = w.heap.size + 1 := by subst hw1; exact alloc_size _ _
  have hsz2 : w2.heap.size = w.heap.size + 2 := by subst hw2; rw [alloc_size]; omega
  have HZ : Hid (Whole w2 w.heap.size 50 zeroR) := Lib.hid ((show Whole w1 w.heap.size 50 zeroR by subst hw1; exact Whole.new w _ _).fr hF2 (fun e => e))
  have hR : Whole w2 w1.heap.size 50 zeroR := by subst hw2; exact Whole.new w1 _ _
  rw [hsz1] at hR
  have HRV : Hid (RevAt w2 (w.heap.size + 1) 0 (.slice none 0 0) [] 0 []) := Lib.hid (by rw [RevAt, ← zeroR_eq]; exact hR)
  have HF := Lib.hid (hF1.trans hF2 (fun _ _ e => e))
  have cv := run_convert_lies 22 9 5 Tryz.underlying22 Tryz.underlying5 Tryz.underlying9 (h.fr (hF1.trans hF2 (fun _ _ e => e)) (fun _ _ e => e)) c
  have HBZ := Lib.hid zero_build
  obtain ⟨X, hX⟩ : ∃ X, getR l = X := ⟨_, rfl⟩
  have HX0 : Hid (∀ G, revL l = G → X = getC G) := Lib.hid (fun G hG => by rw [← hX, getR, hG])
  have hLT := QvLine_any wTree l (by decide) (by decide) (by omega) w2
  rw [hX]
  obtain ⟨n, hn⟩ : ∃ n, l.length = n := ⟨_, rfl⟩
  have HNn := Lib.hid hn
  rw [hn] at cv ⊢
  obtain ⟨S, hS⟩ : ∃ S, strB l = S := ⟨_, rfl⟩
  rw [hS] at cv hLT
  obtain ⟨W1, hW1⟩ : ∃ S, strB wTree = S := ⟨_, rfl⟩
  have e1 : ByteArray.mk #[116, 114, 101, 101] = W1 := hW1
  rw [hW1] at hLT
  unfold zeroR at hw1 hw2
  simp [List.replicate] at hw1 hw2
  clear hX hn hS hW1 hF1 hF2 hR h
  have HRD := Lib.hid (fun (t : List UInt8) (ht : t.length ≤ 100000) (w : World) => Ids.QRead_any (strB t) (by rw [strB_size]; omega) w)
  rcases idL_cases wTree l with ⟨ht, hi⟩ | ⟨t, r, ht, hrd, hi⟩ | ⟨t, r0, T, ht, hi, hTb, hE, hC⟩
  · have HG := Lib.hid (HX0.out none (by rw [revL, hi]))
    rw [ht] at hLT
    have HL := Lib.hid hLT
    have hrd := HRD.out [] (by decide)
    obtain ⟨P, hP⟩ : ∃ P, idC (Ids.rdA (strB [])) = P := ⟨_, rfl⟩
    obtain ⟨E, hE⟩ : ∃ E, Ids.rdE (strB []) = E := ⟨_, rfl⟩
    obtain ⟨Z, hZ⟩ : ∃ Z, strB [] = Z := ⟨_, rfl⟩
    have hPs : P.size = 32 := by rw [← hP]; exact idC_size _
    have hPo : P.all (·.oneCell') = true := by rw [← hP]; exact idC_one _
    rw [hP, hE, hZ] at hrd
    have HR := Lib.hid hrd
    have HZe := Lib.hid hZ
    clear ht hi hLT hrd hP hE
    go_enter Tryz.func12, Tryz.ntmps12
    go_wp2_with (first
      | (go_at_call 24; refine HL.out.mono ?_; rintro e w3 ⟨rfl, b3⟩; rw [HZe.out])
      | (go_at_call 25; refine (HR.out _).mono ?_; rintro e w4 ⟨rfl, b4⟩)
      | (refine wpList_build_to rfl 50 _ rfl #[] (by first | rfl | simp [Act.eval]) (.agg zeroR) (HBZ.out _) ?_)
      | (have _ := M5
         refine wpList_store_at rfl 50 _ _ rfl w.heap.size 0 50 zeroR zeroR rfl rfl Z5 (by decide) size36 zeroR_one ?_
         intro w6 hwz hf6
         rw [laidAt_all _ _ rfl] at hwz
         have FZ := F5.trans hf6 (fun i hi e => by omega))
      | (refine wpList_store_at rfl 32 _ _ rfl w4.heap.size 0 32 _ P rfl rfl (Whole.new w4 32 zero32) (by rw [hPs]; decide) (by rw [hPs]; exact size32) hPo ?_
         intro w5 hw5 hf5
         have F24 := ((HF.out.then_below b3).then_below b4).alloc (.cells zero32 32)
         have F5 : Fr (fun _ => False) w w5 := F24.trans hf5 (fun i hi e => by have := b3.size; have := b4.size; omega)
         have Z5 : Whole w5 w.heap.size 50 zeroR := (((HZ.out.fr (Fr.of_below (S := fun _ => False) b3) (fun e => e)).fr (Fr.of_below (S := fun _ => False) b4) (fun e => e)).fr ((Fr.refl (fun _ => False) _).alloc (.cells zero32 32)) (fun e => e)).fr hf5 (fun e => by have := b3.size; have := b4.size; omega)
         have M5 := True.intro))
    (
      refine bodyPost_ret (v := .tuple #[.agg zeroR, .int .i64 12]) (results_cell_slot (p := 2) (u := 3) rfl _ _ _ _ _ _ rfl hwz Tryz.underlying50 rfl size36) rfl ?_
      exact GetPost.bad HG.out rfl FZ)
  · have HG := Lib.hid (HX0.out none (by rw [revL, hi]))
    have htl := (takeL_len ht).1
    rw [ht] at hLT
    have HL := Lib.hid hLT
    have hrd' := HRD.out t (by omega)
    have hE0 := readI_none hrd
    obtain ⟨P, hP⟩ : ∃ P, idC (Ids.rdA (strB t)) = P := ⟨_, rfl⟩
    obtain ⟨E, hE⟩ : ∃ E, Ids.rdE (strB t) = E := ⟨_, rfl⟩
    obtain ⟨Z, hZ⟩ : ∃ Z, strB t = Z := ⟨_, rfl⟩
    have hPs : P.size = 32 := by rw [← hP]; exact idC_size _
    have hPo : P.all (·.oneCell') = true := by rw [← hP]; exact idC_one _
    rw [hP, hE, hZ] at hrd'
    rw [hE] at hE0
    have HR := Lib.hid hrd'
    have HZe := Lib.hid hZ
    clear ht hi hLT hrd hrd' hP hE hZ htl
    go_enter Tryz.func12, Tryz.ntmps12
    go_wp2_with (first
      | (go_at_call 24; refine HL.out.mono ?_; rintro e w3 ⟨rfl, b3⟩; rw [HZe.out])
      | (go_at_call 25; refine (HR.out _).mono ?_; rintro e w4 ⟨rfl, b4⟩)
      | (refine wpList_build_to rfl 50 _ rfl #[] (by first | rfl | simp [Act.eval]) (.agg zeroR) (HBZ.out _) ?_)
      | (have _ := M5
         refine wpList_store_at rfl 50 _ _ rfl w.heap.size 0 50 zeroR zeroR rfl rfl Z5 (by decide) size36 zeroR_one ?_
         intro w6 hwz hf6
         rw [laidAt_all _ _ rfl] at hwz
         have FZ := F5.trans hf6 (fun i hi e => by omega))
      | (refine wpList_store_at rfl 32 _ _ rfl w4.heap.size 0 32 _ P rfl rfl (Whole.new w4 32 zero32) (by rw [hPs]; decide) (by rw [hPs]; exact size32) hPo ?_
         intro w5 hw5 hf5
         have F24 := ((HF.out.then_below b3).then_below b4).alloc (.cells zero32 32)
         have F5 : Fr (fun _ => False) w w5 := F24.trans hf5 (fun i hi e => by have := b3.size; have := b4.size; omega)
         have Z5 : Whole w5 w.heap.size 50 zeroR := (((HZ.out.fr (Fr.of_below (S := fun _ => False) b3) (fun e => e)).fr (Fr.of_below (S := fun _ => False) b4) (fun e => e)).fr ((Fr.refl (fun _ => False) _).alloc (.cells zero32 32)) (fun e => e)).fr hf5 (fun e => by have := b3.size; have := b4.size; omega)
         have M5 := True.intro))
    (
      refine bodyPost_ret (v := .tuple #[.agg zeroR, .int .i64 12]) (results_cell_slot (p := 2) (u := 3) rfl _ _ _ _ _ _ rfl hwz Tryz.underlying50 rfl size36) rfl ?_
      exact GetPost.bad HG.out rfl FZ)
  · have htl := takeL_len ht
    rw [ht] at hLT
    have HL := Lib.hid hLT
    have hrd' := HRD.out t (by omega)
    rw [hE, hC] at hrd'
    have HLD := Lib.hid (fun (v : Value) => revC_laid 0 v [] 0 [] T)
    have HG0 : Hid (∀ P, parA r0.length [] r0 = P → X = getC (revL1 T P)) := Lib.hid (fun P hP => HX0.out _ (by rw [revL, hi]; simp only []; rw [hP]))
    obtain ⟨P, hP⟩ : ∃ P, idC (dgt T) = P := ⟨_, rfl⟩
    obtain ⟨Z, hZ⟩ : ∃ Z, strB t = Z := ⟨_, rfl⟩
    have hPs : P.size = 32 := by rw [← hP]; exact idC_size _
    have hPo : P.all (·.oneCell') = true := by rw [← hP]; exact idC_one _
    rw [hP] at HLD
    rw [hP, hZ] at hrd'
    have HR := Lib.hid hrd'
    have HZe := Lib.hid hZ
    obtain ⟨R0, hR0⟩ : ∃ R, strB r0 = R := ⟨_, rfl⟩
    have HR0 := Lib.hid hR0
    have hRS := revC_size 0 (.slice none 0 0) [] 0 []
    have hr0 := htl.2
    clear ht hi hLT hrd' hP hZ hE hC htl hR0
    go_enter Tryz.func12, Tryz.ntmps12
    go_wp2_with (first
      | (go_at_call 24; refine HL.out.mono ?_; rintro e w3 ⟨rfl, b3⟩; rw [HZe.out, HR0.out])
      | (go_at_call 25; refine (HR.out _).mono ?_; rintro e w4 ⟨rfl, b4⟩)
      | (refine wpList_load_row rfl 32 _ rfl _ rfl 32 _ _ _ hw5 Tryz.underlying32 rfl (by rw [hPs]; exact size32) ?_)
      | (have _ := M5
         refine wpList_store_at rfl 32 _ _ rfl (w.heap.size + 1) 0 50 _ P rfl rfl K5.out.rev (by rw [hRS, hPs]; decide) (by rw [hPs]; exact size32) hPo ?_
         intro w6 hw6 hf6
         rw [HLD.out] at hw6
         have K6 : Hid (Qk w w6 w4.heap.size w5.heap.size T (.slice none 0 0) [] [] 0 []) := Lib.hid ⟨K5.out.fr.trans hf6 (fun i hi e => by omega), K5.out.zero.fr hf6 (fun e => by omega), hw6, ⟨P, hw5.fr hf6 (fun e => by have := K5.out.lt1; omega), hPs⟩, own_fr K5.out.own hf6 (fun k hk e => by have := (World.ownsRow.lt K5.out.own k hk).1; have := K5.out.lt1; have := K5.out.lt2; omega), K5.out.lt1, K5.out.lt2⟩
         have hbs : w5.heap.size ≤ w6.heap.size := hf6.size
         clear hf6 hw6)
      | (refine wpList_store_at rfl 32 _ _ rfl w4.heap.size 0 32 _ P rfl rfl (Whole.new w4 32 zero32) (by rw [hPs]; decide) (by rw [hPs]; exact size32) hPo ?_
         intro w5 hw5 hf5
         rw [laidAt_all _ _ (by rw [hPs]; rfl)] at hw5
         have F24 := ((HF.out.then_below b3).then_below b4).alloc (.cells zero32 32)
         have F5 : Fr (fun _ => False) w w5 := F24.trans hf5 (fun i hi e => by have := b3.size; have := b4.size; omega)
         have Z5 : Whole w5 w.heap.size 50 zeroR := (((HZ.out.fr (Fr.of_below (S := fun _ => False) b3) (fun e => e)).fr (Fr.of_below (S := fun _ => False) b4) (fun e => e)).fr ((Fr.refl (fun _ => False) _).alloc (.cells zero32 32)) (fun e => e)).fr hf5 (fun e => by have := b3.size; have := b4.size; omega)
         have R5 : RevAt w5 (w.heap.size + 1) 0 (.slice none 0 0) [] 0 [] := Whole.fr (((HRV.out.fr (Fr.of_below (S := fun _ => False) b3)).fr (Fr.of_below (S := fun _ => False) b4)).fr ((Fr.refl (fun _ => False) _).alloc (.cells zero32 32))) hf5 (fun e => by have := b3.size; have := b4.size; omega)
         have K5 : Hid (Qk w w5 w4.heap.size w5.heap.size 0 (.slice none 0 0) [] [] 0 []) := Lib.hid ⟨F5, Z5, R5, ⟨P, hw5, hPs⟩, World.ownsRow_nil w5 w5.heap.size 32 32, by have := b3.size; have := b4.size; omega, Whole.lt hw5⟩
         have M5 := True.intro
         clear F24 F5 Z5 R5 hf5))
    obtain ⟨g8, hg8⟩ : ∃ g, w4.heap.size = g := ⟨_, rfl⟩
    obtain ⟨base, hbase⟩ : ∃ g, w5.heap.size = g := ⟨_, rfl⟩
    rw [hg8, hbase] at K6
    rw [hg8]
    rw [hbase] at hbs
    obtain ⟨PP, hPP⟩ : ∃ P, parA r0.length [] r0 = P := ⟨_, rfl⟩
    have HP0 := Lib.hid hPP
    have HGQ := Lib.hid (HG0.out PP hPP)
    clear hPP hw1 hw2 hw5 K5 b3 b4 hg8 hbase
    have HXw : ByteArray.mk #[112, 97, 114, 101, 110, 116, 32] = strB (wParent ++ [32]) := rfl
    obtain ⟨XW, hXW⟩ : ∃ S, strB (wParent ++ [32]) = S := ⟨_, rfl⟩
    have hXc : ByteArray.mk #[112, 97, 114, 101, 110, 116, 32] = XW := hXW
    have HXW := Lib.hid hXW
    obtain ⟨W2, hW2⟩ : ∃ S, strB wParent = S := ⟨_, rfl⟩
    have e2 : ByteArray.mk #[112, 97, 114, 101, 110, 116] = W2 := hW2
    obtain ⟨W3, hW3⟩ : ∃ S, strB wAuthor = S := ⟨_, rfl⟩
    have e3 : ByteArray.mk #[97, 117, 116, 104, 111, 114] = W3 := hW3
    obtain ⟨W4, hW4⟩ : ∃ S, strB wTime = S := ⟨_, rfl⟩
    have e4 : ByteArray.mk #[116, 105, 109, 101] = W4 := hW4
    have HLP := Lib.hid (fun (r : List UInt8) (hr : r.length ≤ 100000) w => QvLine_any wParent r (by decide) (by decide) (by omega) w)
    have HLA := Lib.hid (fun (r : List UInt8) (hr : r.length ≤ 100000) w => QvLine_any wAuthor r (by decide) (by decide) (by omega) w)
    have HLM := Lib.hid (fun (r : List UInt8) (hr : r.length ≤ 100000) w => QvLine_any wTime r (by decide) (by decide) (by omega) w)
    rw [hW2] at HLP
    rw [hW3] at HLA
    rw [hW4] at HLM
    clear HXw hXW hW2 hW3 hW4
    have HPRE := Lib.hid (fun (r : List UInt8) => (show begW wParent r = (decide (7 ≤ r.length) && r.take 7 == wParent ++ [32]) from pre_take (wParent ++ [32]) r))
    obtain ⟨i0, hi0, hz0, hz1, hz2⟩ := info_parts info_id
    simp only [Act.put]
    go_loopg [6] r0.length (fun kx s6 wr => ∃ acc v r, s6 = .string (strB r) ∧ Qk w wr g8 base T v acc [] 0 [] ∧ base ≤ wr.heap.size ∧ Hid (∀ n ∈ acc, n < big) ∧ Hid (parA kx acc r = PP) ∧ r.length ≤ 100000 ∧ r.length ≤ kx ∧ acc.length + kx ≤ r0.length)
    case atStart => exact ⟨[], _, r0, by rw [HR0.out], K6.out, hbs, Lib.hid (by simp), HP0, by omega, Nat.le_refl _, by simp⟩
    case round =>
      obtain ⟨acc, v, r, rfl, hq, hbsz, HBG, HP, hrl, hrk, hal⟩ := hrel
      obtain ⟨wo, rfl⟩ : ∃ wo, wo = wr := ⟨wr, rfl⟩
      have HQ := Lib.hid hq
      have hrs := strB_size r
      have hst := fun (h7 : 7 ≤ r.length) w => slice_to (P := Tryz.prog) w Tryz.underlying9 r 7 h7
      have heq := str_eq (r.take 7) (wParent ++ [32])
      rw [HXW.out] at heq
      have hpre := HPRE.out r
      obtain ⟨S, hS⟩ : ∃ S, strB r = S := ⟨_, rfl⟩
      obtain ⟨Y, hY⟩ : ∃ S, strB (r.take 7) = S := ⟨_, rfl⟩
      have HS := Lib.hid hS
      rw [hS] at hrs hst ⊢
      rw [hY] at hst heq
      cases hb : begW wParent r with
      | true =>
        rw [hb] at hpre
        have h7 : 7 ≤ r.length := by
          rw [eq_comm, Bool.and_eq_true, decide_eq_true_eq] at hpre
          exact hpre.1
        have h7z : ((r.length : Nat) : Int) ≥ 7 := by omega
        have hst := hst h7
        rw [decide_eq_true h7, Bool.true_and] at hpre
        rw [← hpre] at heq
        have hye : Y.toList = XW.toList := by simpa using heq
        have hll := HLP.out r hrl
        rw [hS] at hll
        obtain ⟨nr, hnr⟩ : ∃ n, r.length = n := ⟨_, rfl⟩
        rw [hnr] at hrs h7z
        have hst' : ∀ w, (Instr.slice 9 (.string S) none (some (.int .i64 7)) none).run Tryz.prog w = .ok (.string Y) w := hst
        clear heq hpre hst hS hY hq
        rcases idL_cases wParent r with ⟨ht, hi⟩ | ⟨t, r', ht, hrd, hi⟩ | ⟨t, r', n, ht, hi, hnb, hE, hC⟩
        · have HG := Lib.hid (show X = (zeroP, 12) by
            have := HP.out
            rw [parA_bad hb hi] at this
            rw [HGQ.out, ← this]; rfl)
          rw [ht] at hll
          have HL := Lib.hid hll
          have hrd := HRD.out [] (by decide)
          obtain ⟨P, hP⟩ : ∃ P, idC (Ids.rdA (strB [])) = P := ⟨_, rfl⟩
          obtain ⟨E, hE⟩ : ∃ E, Ids.rdE (strB []) = E := ⟨_, rfl⟩
          obtain ⟨Z, hZ⟩ : ∃ Z, strB [] = Z := ⟨_, rfl⟩
          have hPs : P.size = 32 := by rw [← hP]; exact idC_size _
          have hPo : P.all (·.oneCell') = true := by rw [← hP]; exact idC_one _
          rw [hP, hE, hZ] at hrd
          have HR := Lib.hid hrd
          have HZe := Lib.hid hZ
          clear ht hi hll hrd hP hE hZ hb
          (
            obtain ⟨cx, hbx, hcx⟩ := HQ.out.box
            have HBX := Lib.hid hbx
            clear hbx
            go_wp2_with (first
              | (go_at_call 24; refine (HL.out _).mono ?_; rintro e w3 ⟨rfl, b3⟩; rw [HZe.out])
              | (go_at_call 25; refine (HR.out _).mono ?_; rintro e w4 ⟨rfl, b4⟩)
              | (refine wpList_build_to rfl 50 _ rfl #[] (by first | rfl | simp [Act.eval]) (.agg zeroR) (HBZ.out _) ?_)
              | (have _ := M5
                 refine wpList_store_at rfl 50 _ _ rfl w.heap.size 0 50 zeroR zeroR rfl rfl K5.out.zero (by decide) size36 zeroR_one ?_
                 intro w6 hwz hf6
                 rw [laidAt_all _ _ rfl] at hwz
                 have FZ := K5.out.fr.trans hf6 (fun i hi e => by omega))
              | (refine wpList_store_at rfl 32 _ _ rfl g8 0 32 cx P rfl rfl ((HBX.out.fr (Fr.of_below (S := fun _ => False) b3) (fun e => e)).fr (Fr.of_below (S := fun _ => False) b4) (fun e => e)) (by rw [hcx, hPs]; decide) (by rw [hPs]; exact size32) hPo ?_
                 intro w5 hw5 hf5
                 rw [laidAt_all _ _ (by rw [hcx, hPs])] at hw5
                 have K5 := Lib.hid (((HQ.out.later (Fr.of_below (S := fun _ => False) b3)).later (Fr.of_below (S := fun _ => False) b4)).boxed hw5 hPs hf5)
                 have M5 := True.intro
                 clear hf5)))
          (
            refine bodyPost_ret (v := .tuple #[.agg zeroR, .int .i64 12]) (results_cell_slot (p := 2) (u := 3) rfl _ _ _ _ _ _ rfl hwz Tryz.underlying50 rfl size36) rfl ?_
            exact GetPost.bad HG.out rfl FZ)
        · have HG := Lib.hid (show X = (zeroP, 12) by
            have := HP.out
            rw [parA_bad hb hi] at this
            rw [HGQ.out, ← this]; rfl)
          have htl := (takeL_len ht).1
          rw [ht] at hll
          have HL := Lib.hid hll
          have hrd' := HRD.out t (by omega)
          have hE0 := readI_none hrd
          obtain ⟨P, hP⟩ : ∃ P, idC (Ids.rdA (strB t)) = P := ⟨_, rfl⟩
          obtain ⟨E, hE⟩ : ∃ E, Ids.rdE (strB t) = E := ⟨_, rfl⟩
          obtain ⟨Z, hZ⟩ : ∃ Z, strB t = Z := ⟨_, rfl⟩
          have hPs : P.size = 32 := by rw [← hP]; exact idC_size _
          have hPo : P.all (·.oneCell') = true := by rw [← hP]; exact idC_one _
          rw [hP, hE, hZ] at hrd'
          rw [hE] at hE0
          have HR := Lib.hid hrd'
          have HZe := Lib.hid hZ
          clear ht hi hll hrd hrd' hP hE hZ htl hb
          (
            obtain ⟨cx, hbx, hcx⟩ := HQ.out.box
            have HBX := Lib.hid hbx
            clear hbx
            go_wp2_with (first
              | (go_at_call 24; refine (HL.out _).mono ?_; rintro e w3 ⟨rfl, b3⟩; rw [HZe.out])
              | (go_at_call 25; refine (HR.out _).mono ?_; rintro e w4 ⟨rfl, b4⟩)
              | (refine wpList_build_to rfl 50 _ rfl #[] (by first | rfl | simp [Act.eval]) (.agg zeroR) (HBZ.out _) ?_)
              | (have _ := M5
                 refine wpList_store_at rfl 50 _ _ rfl w.heap.size 0 50 zeroR zeroR rfl rfl K5.out.zero (by decide) size36 zeroR_one ?_
                 intro w6 hwz hf6
                 rw [laidAt_all _ _ rfl] at hwz
                 have FZ := K5.out.fr.trans hf6 (fun i hi e => by omega))
              | (refine wpList_store_at rfl 32 _ _ rfl g8 0 32 cx P rfl rfl ((HBX.out.fr (Fr.of_below (S := fun _ => False) b3) (fun e => e)).fr (Fr.of_below (S := fun _ => False) b4) (fun e => e)) (by rw [hcx, hPs]; decide) (by rw [hPs]; exact size32) hPo ?_
                 intro w5 hw5 hf5
                 rw [laidAt_all _ _ (by rw [hcx, hPs])] at hw5
                 have K5 := Lib.hid (((HQ.out.later (Fr.of_below (S := fun _ => False) b3)).later (Fr.of_below (S := fun _ => False) b4)).boxed hw5 hPs hf5)
                 have M5 := True.intro
                 clear hf5)))
          (
            refine bodyPost_ret (v := .tuple #[.agg zeroR, .int .i64 12]) (results_cell_slot (p := 2) (u := 3) rfl _ _ _ _ _ _ rfl hwz Tryz.underlying50 rfl size36) rfl ?_
            exact GetPost.bad HG.out rfl FZ)
        · have htl := takeL_len ht
          have HNB := Lib.hid hnb
          have hgk1 : gk = (gk - 1) + 1 := by omega
          have HPN : Hid (parA (gk - 1) (acc ++ [n]) r' = PP) := Lib.hid (by
            have := HP.out
            rw [hgk1, parA_go hb hi] at this
            exact this)
          rw [ht] at hll
          have HL := Lib.hid hll
          have hrd' := HRD.out t (by omega)
          rw [hE, hC] at hrd'
          obtain ⟨P, hP⟩ : ∃ P, idC (dgt n) = P := ⟨_, rfl⟩
          obtain ⟨Z, hZ⟩ : ∃ Z, strB t = Z := ⟨_, rfl⟩
          have hPs : P.size = 32 := by rw [← hP]; exact idC_size _
          have hPo : P.all (·.oneCell') = true := by rw [← hP]; exact idC_one _
          have HPD := Lib.hid hP
          rw [hP, hZ] at hrd'
          have HR := Lib.hid hrd'
          have HZe := Lib.hid hZ
          have HSN := Lib.hid (src_one32 · n)
          clear ht hi hll hrd' hP hE hC hZ hb
          obtain ⟨cx, hbx, hcx⟩ := HQ.out.box
          have HBX := Lib.hid hbx
          clear hbx
          go_wp2_with (first
            | (go_at_call 24; refine (HL.out _).mono ?_; rintro e w3 ⟨rfl, b3⟩; rw [HZe.out])
            | (go_at_call 25; refine (HR.out _).mono ?_; rintro e w4 ⟨rfl, b4⟩)
            | (refine wpList_store_at rfl 32 _ _ rfl g8 0 32 cx P rfl rfl ((HBX.out.fr (Fr.of_below (S := fun _ => False) b3) (fun e => e)).fr (Fr.of_below (S := fun _ => False) b4) (fun e => e)) (by rw [hcx, hPs]; decide) (by rw [hPs]; exact size32) hPo ?_
               intro w5 hw5 hf5
               rw [laidAt_all _ _ (by rw [hcx, hPs])] at hw5
               have K5 := Lib.hid (((HQ.out.later (Fr.of_below (S := fun _ => False) b3)).later (Fr.of_below (S := fun _ => False) b4)).boxed hw5 hPs hf5)
               have c5 := K5.out.rev.cv
               have hb5 : base ≤ w5.heap.size := (by have := b3.size; have := b4.size; have := hf5.size; omega)
               clear hf5)
            | (refine wpList_load_row rfl 32 _ rfl _ rfl 32 _ _ _ hw5 Tryz.underlying32 rfl (by rw [hPs]; exact size32) ?_)
            | (refine wpList_build_oneP rfl (.tmp 61) rfl n P HPD.out rfl ?_
               have K6 := Lib.hid (K5.out.later ((Fr.refl (fun _ => False) w5).alloc (.cells P 32))))
            | (at_builtin
               refine wpList_append_row _ rfl (.tmp 60) (.tmp 62) 48 48 rfl base 32 i0 (.agg zero32) 32 32 Tryz.underlying48 hi0 hz0 hz1 hz2 zero32_cells v acc.length (flatI acc) rfl K6.out.own _ 1 (flatI [n]) rfl (by have := HSN.out w5; rw [HPD.out] at this; exact this) (by unfold maxLen; omega) (by omega) (by rw [alloc_size]; omega) ?_
               intro v7 w7 o7 g7 at7
               obtain ⟨A7, k7, hv7, _, _⟩ := own_slice o7
               subst hv7
               have HG7 := Lib.hid (K6.out.grown o7 g7 (by rw [alloc_size]; omega))
               have c7 := HG7.out.1.cv
               have z7 := HG7.out.1.frozen 32
               have hb7 : base ≤ w7.heap.size := (by have h1 := g7.size; rw [alloc_size] at h1; omega)
               clear o7 g7 at7))
          go_roundg (gk - 1)
          case measure => omega
          case rel => exact ⟨acc ++ [n], _, r', rfl, HG7.out.2, by simpa using hb7, Lib.hid (fun m hm => by rcases List.mem_append.1 hm with h | h; exact HBG.out m h; rw [List.mem_singleton] at h; rw [h]; exact HNB.out), HPN, by omega, by omega, by rw [List.length_append, List.length_singleton]; omega⟩
      | false =>
        have HG1 : Hid (X = getC (revL2 T acc r)) := Lib.hid (by
          have := HP.out
          rw [parA_end hb] at this
          rw [HGQ.out, ← this]; rfl)
        rw [hb] at hpre
        clear hb
        by_cases h7 : 7 ≤ r.length
        · have h7z : ((r.length : Nat) : Int) ≥ 7 := by omega
          have hst := hst h7
          rw [decide_eq_true h7, Bool.true_and] at hpre
          rw [← hpre] at heq
          have hye : ¬ Y.toList = XW.toList := by simpa using heq
          have hye2 : (Y.toList == XW.toList) = false := heq
          have hlr : r.length ≤ 100000 := hrl
          obtain ⟨nr, hnr⟩ : ∃ n, r.length = n := ⟨_, rfl⟩
          have HNR := Lib.hid hnr
          rw [hnr] at hrs h7z
          have hst' : ∀ w, (Instr.slice 9 (.string S) none (some (.int .i64 7)) none).run Tryz.prog w = .ok (.string Y) w := hst
          clear heq hpre hst hS hY hq hnr
          (
            have HSA0 := Lib.hid (fun (a : List UInt8) (w3 : World) (h : Qk w w3 g8 base T v acc [] 0 []) => (h.put (p := ⟨w.heap.size + 1, 33, none⟩) rfl (.string (strB a)) (h.rev.setA a) : Qk w _ g8 base T v acc a 0 []))
            have hla := HLA.out r hrl
            rw [HS.out] at hla
            cases hta : takeL wAuthor r with
            | none =>
              have HG := Lib.hid (show X = (zeroP, 12) by rw [HG1.out, revL2, hta]; rfl)
              rw [hta] at hla
              have HL := Lib.hid hla
              have HSA := Lib.hid (HSA0.out [])
              obtain ⟨Z, hZ⟩ : ∃ Z, strB [] = Z := ⟨_, rfl⟩
              have HZe := Lib.hid hZ
              rw [hZ] at HSA
              clear hta hla hZ
              go_wp2_with (first
                | (
                  (go_at_call 24
                   refine (HL.out _).mono ?_
                   rintro e w3 ⟨rfl, b3⟩
                   rw [HZe.out]
                   have K3 := Lib.hid (HQ.out.later (Fr.of_below (S := fun _ => False) b3))
                   have d3 := K3.out.rev.ca
                   have e3' := K3.out.rev.frozen 33
                   have K4 := Lib.hid (HSA.out w3 K3.out)
                   clear b3))
                | (refine wpList_build_to rfl 50 _ rfl #[] (by first | rfl | simp [Act.eval]) (.agg zeroR) (HBZ.out _) ?_)
                | (
                  (refine wpList_store_at rfl 50 _ _ rfl w.heap.size 0 50 zeroR zeroR rfl rfl K4.out.zero (by decide) size36 zeroR_one ?_
                   intro w6 hwz hf6
                   rw [laidAt_all _ _ rfl] at hwz
                   have FZ := K4.out.fr.trans hf6 (fun i hi e => by omega))))
              (
                refine bodyPost_ret (v := .tuple #[.agg zeroR, .int .i64 12]) (results_cell_slot (p := 2) (u := 3) rfl _ _ _ _ _ _ rfl hwz Tryz.underlying50 rfl size36) rfl ?_
                exact GetPost.bad HG.out rfl FZ)
            | some xa =>
              obtain ⟨a, r2⟩ := xa
              have hl2 := takeL_len hta
              have HG2 := Lib.hid (show X = getC (revL3 T acc a r2) by rw [HG1.out, revL2, hta])
              rw [hta] at hla
              have HL := Lib.hid hla
              have HSA := Lib.hid (HSA0.out a)
              obtain ⟨Za, hZa⟩ : ∃ Z, strB a = Z := ⟨_, rfl⟩
              have HZa := Lib.hid hZa
              rw [hZa] at HSA
              obtain ⟨S2, hS2⟩ : ∃ Z, strB r2 = Z := ⟨_, rfl⟩
              have HS2 := Lib.hid hS2
              have hlm := HLM.out r2 (by omega)
              rw [hS2] at hlm
              clear hta hla hZa hS2
              cases htm : takeL wTime r2 with
              | none =>
                have HG := Lib.hid (show X = (zeroP, 12) by rw [HG2.out, revL3, numL, htm]; rfl)
                rw [htm] at hlm
                have HM := Lib.hid hlm
                have HNU := Lib.hid (fun w => QvNumber_any [] (by decide) w)
                obtain ⟨Z, hZ⟩ : ∃ Z, strB [] = Z := ⟨_, rfl⟩
                have HZe := Lib.hid hZ
                rw [hZ] at HNU
                obtain ⟨N1, hN1⟩ : ∃ x, (numW []).1 = x := ⟨_, rfl⟩
                obtain ⟨N2, hN2⟩ : ∃ x, (numW []).2 = x := ⟨_, rfl⟩
                rw [hN1, hN2] at HNU
                clear htm hlm hZ hN1 hN2
                go_wp2_with (first
                  | (have _ := K4; go_at_call 24; refine (HM.out _).mono ?_; rintro e w5 ⟨rfl, b5⟩; rw [HZe.out]; have K5 := Lib.hid (K4.out.later (Fr.of_below (S := fun _ => False) b5)))
                  | (
                    (go_at_call 24
                     refine (HL.out _).mono ?_
                     rintro e w3 ⟨rfl, b3⟩
                     rw [HZa.out, HS2.out]
                     have K3 := Lib.hid (HQ.out.later (Fr.of_below (S := fun _ => False) b3))
                     have d3 := K3.out.rev.ca
                     have e3' := K3.out.rev.frozen 33
                     have K4 := Lib.hid (HSA.out w3 K3.out)
                     clear b3))
                  | (go_at_call 26; refine (HNU.out _).mono ?_; rintro e w' ⟨rfl, rfl⟩)
                  | (refine wpList_build_to rfl 50 _ rfl #[] (by first | rfl | simp [Act.eval]) (.agg zeroR) (HBZ.out _) ?_)
                  | (
                    (refine wpList_store_at rfl 50 _ _ rfl w.heap.size 0 50 zeroR zeroR rfl rfl K5.out.zero (by decide) size36 zeroR_one ?_
                     intro w6 hwz hf6
                     rw [laidAt_all _ _ rfl] at hwz
                     have FZ := K5.out.fr.trans hf6 (fun i hi e => by omega))))
                (
                  refine bodyPost_ret (v := .tuple #[.agg zeroR, .int .i64 12]) (results_cell_slot (p := 2) (u := 3) rfl _ _ _ _ _ _ rfl hwz Tryz.underlying50 rfl size36) rfl ?_
                  exact GetPost.bad HG.out rfl FZ)
              | some xt =>
                obtain ⟨t, r3⟩ := xt
                have hl3 := takeL_len htm
                rw [htm] at hlm
                have HM := Lib.hid hlm
                have hnu := fun w => QvNumber_any t (by omega) w
                obtain ⟨Zt, hZt⟩ : ∃ Z, strB t = Z := ⟨_, rfl⟩
                have HZt := Lib.hid hZt
                have hl3z := strB_list r3
                obtain ⟨S3, hS3⟩ : ∃ Z, strB r3 = Z := ⟨_, rfl⟩
                have HS3 := Lib.hid hS3
                rw [hZt] at hnu
                rw [hS3] at hl3z
                rcases numW_cases t with ⟨h1, h2, h3⟩ | ⟨h1, _, h2⟩
                · have HG3 := Lib.hid (show X = getC (revL4 T acc a (valN t) r3) by rw [HG2.out, revL3, numL, htm]; simp only []; rw [h1])
                  rw [h2] at hnu
                  have hvb : valN t < 1000000000000000 := h3
                  obtain ⟨N1, hN1⟩ : ∃ x : Int, ((valN t : Nat) : Int) = x := ⟨_, rfl⟩
                  rw [hN1] at hnu
                  have HNN := Lib.hid hN1
                  have HNU := Lib.hid hnu
                  clear h1 h2 htm hlm hZt hnu hN1
                  rcases r3 with _ | ⟨c0, r4⟩
                  · have HG := Lib.hid (show X = (zeroP, 12) by rw [HG3.out]; rfl)
                    clear hS3 hvb
                    go_wp2_with (first
                      | (have _ := K4; go_at_call 24; refine (HM.out _).mono ?_; rintro e w5 ⟨rfl, b5⟩; rw [HZt.out, HS3.out]; have K5 := Lib.hid (K4.out.later (Fr.of_below (S := fun _ => False) b5)))
                      | (
                        (go_at_call 24
                         refine (HL.out _).mono ?_
                         rintro e w3 ⟨rfl, b3⟩
                         rw [HZa.out, HS2.out]
                         have K3 := Lib.hid (HQ.out.later (Fr.of_below (S := fun _ => False) b3))
                         have d3 := K3.out.rev.ca
                         have e3' := K3.out.rev.frozen 33
                         have K4 := Lib.hid (HSA.out w3 K3.out)
                         clear b3))
                      | (go_at_call 26; refine (HNU.out _).mono ?_; rintro e w' ⟨rfl, rfl⟩)
                      | (refine wpList_build_to rfl 50 _ rfl #[] (by first | rfl | simp [Act.eval]) (.agg zeroR) (HBZ.out _) ?_)
                      | (
                        (refine wpList_store_at rfl 50 _ _ rfl w.heap.size 0 50 zeroR zeroR rfl rfl K5.out.zero (by decide) size36 zeroR_one ?_
                         intro w6 hwz hf6
                         rw [laidAt_all _ _ rfl] at hwz
                         have FZ := K5.out.fr.trans hf6 (fun i hi e => by omega))))
                    (
                      refine bodyPost_ret (v := .tuple #[.agg zeroR, .int .i64 12]) (results_cell_slot (p := 2) (u := 3) rfl _ _ _ _ _ _ rfl hwz Tryz.underlying50 rfl size36) rfl ?_
                      exact GetPost.bad HG.out rfl FZ)
                  · have hix : ∀ w, (Instr.index 9 (.string S3) (.int .i64 0)).run Tryz.prog w = .ok (.int .u8 (c0.toNat : Nat)) w := fun w => by have := index_str (P := Tryz.prog) w Tryz.underlying9 (c0 :: r4) 0 (by simp); rw [hS3] at this; exact this
                    have hne3 : ¬ S3.toList = [] := by rw [hl3z]; simp
                    have hie : S3.toList.isEmpty = false := by rw [hl3z]; rfl
                    have hsl := fun w => slice_from (P := Tryz.prog) w Tryz.underlying9 (c0 :: r4) 1 (by simp)
                    rw [hS3] at hsl
                    rw [show (c0 :: r4).drop 1 = r4 from rfl] at hsl
                    have hl4 : r4.length + 1 < r2.length := hl3.2
                    by_cases hc0 : c0 = 10
                    · subst hc0
                      have HG4 := Lib.hid (show X = getC (some ⟨T, acc, a, valN t, r4⟩) by rw [HG3.out]; rfl)
                      rw [show ((10 : UInt8).toNat : Int) = 10 from rfl] at hix
                      have hsl' : ∀ w, (Instr.slice 9 (.string S3) (some (.int .i64 1)) none none).run Tryz.prog w = .ok (.string (strB r4)) w := hsl
                      have HSN := Lib.hid (fun (w5 : World) (h : Qk w w5 g8 base T v acc a 0 []) => (h.put (p := ⟨w.heap.size + 1, 34, none⟩) rfl (.int .i64 (valN t)) (h.rev.setN (valN t)) : Qk w _ g8 base T v acc a (valN t) []))
                      have HSX := Lib.hid (fun (w5 : World) (h : Qk w w5 g8 base T v acc a (valN t) []) => (h.put (p := ⟨w.heap.size + 1, 35, none⟩) rfl (.string (strB r4)) (h.rev.setT r4) : Qk w _ g8 base T v acc a (valN t) r4))
                      obtain ⟨A4, k4, hv4, hk4, _⟩ := own_slice HQ.out.own
                      have hpl := HBG.out
                      have HCK := Lib.hid (fun (w5 : World) (h5 : Lies w5 A4 (flatI acc)) => QvCheck_any T A4 k4 acc a (valN t) r4 hpl (by omega) (by omega) w5 h5)
                      subst hv4
                      have hrs' := revC_size T (.slice A4 acc.length k4) a (valN t) r4
                      have hro' := revC_one T (.slice A4 acc.length k4) a (valN t) r4 rfl
                      obtain ⟨cr, hcr⟩ : ∃ c, revC T (.slice A4 acc.length k4) a (valN t) r4 = c := ⟨_, rfl⟩
                      have HCR := Lib.hid hcr
                      have hcr2 := hcr
                      rw [HNN.out] at hcr2
                      have HCR2 := Lib.hid hcr2
                      rw [hcr] at HCK hrs' hro'
                      rw [HNN.out] at HSN HSX
                      clear hcr2
                      obtain ⟨S4, hS4⟩ : ∃ Z, strB r4 = Z := ⟨_, rfl⟩
                      rw [hS4] at hsl' HSX
                      have HGok := Lib.hid (fun h => getC_ok (R := ⟨T, acc, a, valN t, r4⟩) h)
                      have HGbad := Lib.hid (fun h => getC_bad (R := ⟨T, acc, a, valN t, r4⟩) h)
                      simp only [] at HGok HGbad
                      obtain ⟨q, hq'⟩ : ∃ q, chkE acc a (valN t) r4 = q := ⟨_, rfl⟩
                      rw [hq'] at HCK HGok HGbad
                      clear hS3 hvb hsl hcr hS4 hq' hpl
                      by_cases hq0 : q = 0
                      · subst hq0
                        go_wp2_with (first
                          | (have _ := K4; go_at_call 24; refine (HM.out _).mono ?_; rintro e w5 ⟨rfl, b5⟩; rw [HZt.out, HS3.out]; have K5 := Lib.hid (K4.out.later (Fr.of_below (S := fun _ => False) b5)); have d5 := K5.out.rev.cn; have e5 := K5.out.rev.frozen 34; have K6 := Lib.hid (HSN.out _ K5.out); have d6 := K6.out.rev.ct; have e6 := K6.out.rev.frozen 35; have K7 := Lib.hid (HSX.out _ K6.out))
                          | (
                            (go_at_call 24
                             refine (HL.out _).mono ?_
                             rintro e w3 ⟨rfl, b3⟩
                             rw [HZa.out, HS2.out]
                             have K3 := Lib.hid (HQ.out.later (Fr.of_below (S := fun _ => False) b3))
                             have d3 := K3.out.rev.ca
                             have e3' := K3.out.rev.frozen 33
                             have K4 := Lib.hid (HSA.out w3 K3.out)
                             clear b3))
                          | (go_at_call 26; refine (HNU.out _).mono ?_; rintro e w' ⟨rfl, rfl⟩)
                          | (have _ := K8; refine wpList_load_row rfl 50 _ rfl _ rfl 50 cr _ _ (by rw [← HCR2.out]; exact K8.out.rev) Tryz.underlying50 rfl (by rw [hrs']; exact size36) ?_)
                          | (refine wpList_load_row rfl 50 _ rfl _ rfl 50 cr _ _ (by rw [← HCR2.out]; exact K7.out.rev) Tryz.underlying50 rfl (by rw [hrs']; exact size36) ?_)
                          | (go_at_call 27; refine (HCK.out _ (Lies.of_own32 K7.out.own)).mono ?_; rintro e w8 ⟨rfl, b8⟩; have K8 := Lib.hid (K7.out.later (Fr.of_below (S := fun _ => False) b8)))
                          | (refine wpList_store_at rfl 50 _ _ rfl w.heap.size 0 50 zeroR cr rfl rfl K8.out.zero (by rw [hrs']; decide) (by rw [hrs']; exact size36) hro' ?_
                             intro w9 hwz hf9
                             rw [laidAt_all _ _ (by rw [hrs']; rfl)] at hwz
                             have FZ := K8.out.fr.trans hf9 (fun i hi e => by omega)))
                        refine bodyPost_ret (v := .tuple #[.agg cr, .int .i64 0]) (results_cell_slot (p := 2) (u := 3) rfl _ _ _ _ _ _ rfl hwz Tryz.underlying50 rfl (by rw [hrs']; exact size36)) rfl ?_
                        refine GetPost.good (R := ⟨T, acc, a, valN t, r4⟩) (v := .slice A4 acc.length k4) (by rw [HG4.out]; exact HGok.out (by first | rfl | trivial)) (by rw [← HCR.out]) ⟨?_, FZ⟩
                        have o9 := own_fr K8.out.own hf9 (fun k hk e => by have := (World.ownsRow.lt K8.out.own k hk).1; have := K8.out.lt1; have := K8.out.lt2; omega)
                        refine ⟨o9.1, ?_⟩
                        rcases o9.2 with h0 | ⟨gg, cap, cur, hv, hb, rr⟩
                        · exact .inl h0
                        · exact .inr ⟨gg, cap, cur, hv, by have := K8.out.lt1; have := K8.out.lt2; omega, rr⟩
                      · have hqz : (q == 0) = false := by simp [hq0]
                        go_wp2_with (first
                          | (have _ := K4; go_at_call 24; refine (HM.out _).mono ?_; rintro e w5 ⟨rfl, b5⟩; rw [HZt.out, HS3.out]; have K5 := Lib.hid (K4.out.later (Fr.of_below (S := fun _ => False) b5)); have d5 := K5.out.rev.cn; have e5 := K5.out.rev.frozen 34; have K6 := Lib.hid (HSN.out _ K5.out); have d6 := K6.out.rev.ct; have e6 := K6.out.rev.frozen 35; have K7 := Lib.hid (HSX.out _ K6.out))
                          | (
                            (go_at_call 24
                             refine (HL.out _).mono ?_
                             rintro e w3 ⟨rfl, b3⟩
                             rw [HZa.out, HS2.out]
                             have K3 := Lib.hid (HQ.out.later (Fr.of_below (S := fun _ => False) b3))
                             have d3 := K3.out.rev.ca
                             have e3' := K3.out.rev.frozen 33
                             have K4 := Lib.hid (HSA.out w3 K3.out)
                             clear b3))
                          | (go_at_call 26; refine (HNU.out _).mono ?_; rintro e w' ⟨rfl, rfl⟩)
                          | (refine wpList_load_row rfl 50 _ rfl _ rfl 50 cr _ _ (by rw [← HCR2.out]; exact K7.out.rev) Tryz.underlying50 rfl (by rw [hrs']; exact size36) ?_)
                          | (go_at_call 27; refine (HCK.out _ (Lies.of_own32 K7.out.own)).mono ?_; rintro e w8 ⟨rfl, b8⟩; have K8 := Lib.hid (K7.out.later (Fr.of_below (S := fun _ => False) b8)))
                          | (refine wpList_build_to rfl 50 _ rfl #[] (by first | rfl | simp [Act.eval]) (.agg zeroR) (HBZ.out _) ?_)
                          | (
                            (refine wpList_store_at rfl 50 _ _ rfl w.heap.size 0 50 zeroR zeroR rfl rfl K8.out.zero (by decide) size36 zeroR_one ?_
                             intro w6 hwz hf6
                             rw [laidAt_all _ _ rfl] at hwz
                             have FZ := K8.out.fr.trans hf6 (fun i hi e => by omega))))
                        refine bodyPost_ret (v := .tuple #[.agg zeroR, .int .i64 q]) (results_cell_slot (p := 2) (u := 3) rfl _ _ _ _ _ _ rfl hwz Tryz.underlying50 rfl size36) rfl ?_
                        exact GetPost.bad (by rw [HG4.out]; exact HGbad.out hq0) rfl FZ
                    · have HG := Lib.hid (show X = (zeroP, 12) by
                        rw [HG3.out, revL4, textL, if_neg]
                        · rfl
                        · simp [List.isPrefixOf]; exact fun e => hc0 e.symm)
                      have hcz : (((c0.toNat : Nat) : Int) == 10) = false := by
                        rw [beq_eq_false_iff_ne]
                        intro e
                        exact hc0 (UInt8.toNat_inj.1 (by show _ = 10; omega))
                      obtain ⟨xc, hxc⟩ : ∃ x : Int, ((c0.toNat : Nat) : Int) = x := ⟨_, rfl⟩
                      rw [hxc] at hix hcz
                      clear hS3 hvb hsl hxc hc0
                      go_wp2_with (first
                        | (have _ := K4; go_at_call 24; refine (HM.out _).mono ?_; rintro e w5 ⟨rfl, b5⟩; rw [HZt.out, HS3.out]; have K5 := Lib.hid (K4.out.later (Fr.of_below (S := fun _ => False) b5)))
                        | (
                          (go_at_call 24
                           refine (HL.out _).mono ?_
                           rintro e w3 ⟨rfl, b3⟩
                           rw [HZa.out, HS2.out]
                           have K3 := Lib.hid (HQ.out.later (Fr.of_below (S := fun _ => False) b3))
                           have d3 := K3.out.rev.ca
                           have e3' := K3.out.rev.frozen 33
                           have K4 := Lib.hid (HSA.out w3 K3.out)
                           clear b3))
                        | (go_at_call 26; refine (HNU.out _).mono ?_; rintro e w' ⟨rfl, rfl⟩)
                        | (refine wpList_build_to rfl 50 _ rfl #[] (by first | rfl | simp [Act.eval]) (.agg zeroR) (HBZ.out _) ?_)
                        | (
                          (refine wpList_store_at rfl 50 _ _ rfl w.heap.size 0 50 zeroR zeroR rfl rfl K5.out.zero (by decide) size36 zeroR_one ?_
                           intro w6 hwz hf6
                           rw [laidAt_all _ _ rfl] at hwz
                           have FZ := K5.out.fr.trans hf6 (fun i hi e => by omega))))
                      (
                        refine bodyPost_ret (v := .tuple #[.agg zeroR, .int .i64 12]) (results_cell_slot (p := 2) (u := 3) rfl _ _ _ _ _ _ rfl hwz Tryz.underlying50 rfl size36) rfl ?_
                        exact GetPost.bad HG.out rfl FZ)
                · have HG := Lib.hid (show X = (zeroP, 12) by rw [HG2.out, revL3, numL, htm]; simp only []; rw [h1]; rfl)
                  rw [h2] at hnu
                  have HNU := Lib.hid hnu
                  clear h1 h2 htm hlm hZt hnu hS3 hl3z
                  go_wp2_with (first
                    | (have _ := K4; go_at_call 24; refine (HM.out _).mono ?_; rintro e w5 ⟨rfl, b5⟩; rw [HZt.out, HS3.out]; have K5 := Lib.hid (K4.out.later (Fr.of_below (S := fun _ => False) b5)))
                    | (
                      (go_at_call 24
                       refine (HL.out _).mono ?_
                       rintro e w3 ⟨rfl, b3⟩
                       rw [HZa.out, HS2.out]
                       have K3 := Lib.hid (HQ.out.later (Fr.of_below (S := fun _ => False) b3))
                       have d3 := K3.out.rev.ca
                       have e3' := K3.out.rev.frozen 33
                       have K4 := Lib.hid (HSA.out w3 K3.out)
                       clear b3))
                    | (go_at_call 26; refine (HNU.out _).mono ?_; rintro e w' ⟨rfl, rfl⟩)
                    | (refine wpList_build_to rfl 50 _ rfl #[] (by first | rfl | simp [Act.eval]) (.agg zeroR) (HBZ.out _) ?_)
                    | (
                      (refine wpList_store_at rfl 50 _ _ rfl w.heap.size 0 50 zeroR zeroR rfl rfl K5.out.zero (by decide) size36 zeroR_one ?_
                       intro w6 hwz hf6
                       rw [laidAt_all _ _ rfl] at hwz
                       have FZ := K5.out.fr.trans hf6 (fun i hi e => by omega))))
                  (
                    refine bodyPost_ret (v := .tuple #[.agg zeroR, .int .i64 12]) (results_cell_slot (p := 2) (u := 3) rfl _ _ _ _ _ _ rfl hwz Tryz.underlying50 rfl size36) rfl ?_
                    exact GetPost.bad HG.out rfl FZ))
        · have h7z : ¬ ((r.length : Nat) : Int) ≥ 7 := by omega
          obtain ⟨nr, hnr⟩ : ∃ n, r.length = n := ⟨_, rfl⟩
          have HNR := Lib.hid hnr
          rw [hnr] at hrs h7z
          clear heq hpre hst hS hY hq hnr
          (
            have HSA0 := Lib.hid (fun (a : List UInt8) (w3 : World) (h : Qk w w3 g8 base T v acc [] 0 []) => (h.put (p := ⟨w.heap.size + 1, 33, none⟩) rfl (.string (strB a)) (h.rev.setA a) : Qk w _ g8 base T v acc a 0 []))
            have hla := HLA.out r hrl
            rw [HS.out] at hla
            cases hta : takeL wAuthor r with
            | none =>
              have HG := Lib.hid (show X = (zeroP, 12) by rw [HG1.out, revL2, hta]; rfl)
              rw [hta] at hla
              have HL := Lib.hid hla
              have HSA := Lib.hid (HSA0.out [])
              obtain ⟨Z, hZ⟩ : ∃ Z, strB [] = Z := ⟨_, rfl⟩
              have HZe := Lib.hid hZ
              rw [hZ] at HSA
              clear hta hla hZ
              go_wp2_with (first
                | (
                  (go_at_call 24
                   refine (HL.out _).mono ?_
                   rintro e w3 ⟨rfl, b3⟩
                   rw [HZe.out]
                   have K3 := Lib.hid (HQ.out.later (Fr.of_below (S := fun _ => False) b3))
                   have d3 := K3.out.rev.ca
                   have e3' := K3.out.rev.frozen 33
                   have K4 := Lib.hid (HSA.out w3 K3.out)
                   clear b3))
                | (refine wpList_build_to rfl 50 _ rfl #[] (by first | rfl | simp [Act.eval]) (.agg zeroR) (HBZ.out _) ?_)
                | (
                  (refine wpList_store_at rfl 50 _ _ rfl w.heap.size 0 50 zeroR zeroR rfl rfl K4.out.zero (by decide) size36 zeroR_one ?_
                   intro w6 hwz hf6
                   rw [laidAt_all _ _ rfl] at hwz
                   have FZ := K4.out.fr.trans hf6 (fun i hi e => by omega))))
              (
                refine bodyPost_ret (v := .tuple #[.agg zeroR, .int .i64 12]) (results_cell_slot (p := 2) (u := 3) rfl _ _ _ _ _ _ rfl hwz Tryz.underlying50 rfl size36) rfl ?_
                exact GetPost.bad HG.out rfl FZ)
            | some xa =>
              obtain ⟨a, r2⟩ := xa
              have hl2 := takeL_len hta
              have HG2 := Lib.hid (show X = getC (revL3 T acc a r2) by rw [HG1.out, revL2, hta])
              rw [hta] at hla
              have HL := Lib.hid hla
              have HSA := Lib.hid (HSA0.out a)
              obtain ⟨Za, hZa⟩ : ∃ Z, strB a = Z := ⟨_, rfl⟩
              have HZa := Lib.hid hZa
              rw [hZa] at HSA
              obtain ⟨S2, hS2⟩ : ∃ Z, strB r2 = Z := ⟨_, rfl⟩
              have HS2 := Lib.hid hS2
              have hlm := HLM.out r2 (by omega)
              rw [hS2] at hlm
              clear hta hla hZa hS2
              cases htm : takeL wTime r2 with
              | none =>
                have HG := Lib.hid (show X = (zeroP, 12) by rw [HG2.out, revL3, numL, htm]; rfl)
                rw [htm] at hlm
                have HM := Lib.hid hlm
                have HNU := Lib.hid (fun w => QvNumber_any [] (by decide) w)
                obtain ⟨Z, hZ⟩ : ∃ Z, strB [] = Z := ⟨_, rfl⟩
                have HZe := Lib.hid hZ
                rw [hZ] at HNU
                obtain ⟨N1, hN1⟩ : ∃ x, (numW []).1 = x := ⟨_, rfl⟩
                obtain ⟨N2, hN2⟩ : ∃ x, (numW []).2 = x := ⟨_, rfl⟩
                rw [hN1, hN2] at HNU
                clear htm hlm hZ hN1 hN2
                go_wp2_with (first
                  | (have _ := K4; go_at_call 24; refine (HM.out _).mono ?_; rintro e w5 ⟨rfl, b5⟩; rw [HZe.out]; have K5 := Lib.hid (K4.out.later (Fr.of_below (S := fun _ => False) b5)))
                  | (
                    (go_at_call 24
                     refine (HL.out _).mono ?_
                     rintro e w3 ⟨rfl, b3⟩
                     rw [HZa.out, HS2.out]
                     have K3 := Lib.hid (HQ.out.later (Fr.of_below (S := fun _ => False) b3))
                     have d3 := K3.out.rev.ca
                     have e3' := K3.out.rev.frozen 33
                     have K4 := Lib.hid (HSA.out w3 K3.out)
                     clear b3))
                  | (go_at_call 26; refine (HNU.out _).mono ?_; rintro e w' ⟨rfl, rfl⟩)
                  | (refine wpList_build_to rfl 50 _ rfl #[] (by first | rfl | simp [Act.eval]) (.agg zeroR) (HBZ.out _) ?_)
                  | (
                    (refine wpList_store_at rfl 50 _ _ rfl w.heap.size 0 50 zeroR zeroR rfl rfl K5.out.zero (by decide) size36 zeroR_one ?_
                     intro w6 hwz hf6
                     rw [laidAt_all _ _ rfl] at hwz
                     have FZ := K5.out.fr.trans hf6 (fun i hi e => by omega))))
                (
                  refine bodyPost_ret (v := .tuple #[.agg zeroR, .int .i64 12]) (results_cell_slot (p := 2) (u := 3) rfl _ _ _ _ _ _ rfl hwz Tryz.underlying50 rfl size36) rfl ?_
                  exact GetPost.bad HG.out rfl FZ)
              | some xt =>
                obtain ⟨t, r3⟩ := xt
                have hl3 := takeL_len htm
                rw [htm] at hlm
                have HM := Lib.hid hlm
                have hnu := fun w => QvNumber_any t (by omega) w
                obtain ⟨Zt, hZt⟩ : ∃ Z, strB t = Z := ⟨_, rfl⟩
                have HZt := Lib.hid hZt
                have hl3z := strB_list r3
                obtain ⟨S3, hS3⟩ : ∃ Z, strB r3 = Z := ⟨_, rfl⟩
                have HS3 := Lib.hid hS3
                rw [hZt] at hnu
                rw [hS3] at hl3z
                rcases numW_cases t with ⟨h1, h2, h3⟩ | ⟨h1, _, h2⟩
                · have HG3 := Lib.hid (show X = getC (revL4 T acc a (valN t) r3) by rw [HG2.out, revL3, numL, htm]; simp only []; rw [h1])
                  rw [h2] at hnu
                  have hvb : valN t < 1000000000000000 := h3
                  obtain ⟨N1, hN1⟩ : ∃ x : Int, ((valN t : Nat) : Int) = x := ⟨_, rfl⟩
                  rw [hN1] at hnu
                  have HNN := Lib.hid hN1
                  have HNU := Lib.hid hnu
                  clear h1 h2 htm hlm hZt hnu hN1
                  rcases r3 with _ | ⟨c0, r4⟩
                  · have HG := Lib.hid (show X = (zeroP, 12) by rw [HG3.out]; rfl)
                    clear hS3 hvb
                    go_wp2_with (first
                      | (have _ := K4; go_at_call 24; refine (HM.out _).mono ?_; rintro e w5 ⟨rfl, b5⟩; rw [HZt.out, HS3.out]; have K5 := Lib.hid (K4.out.later (Fr.of_below (S := fun _ => False) b5)))
                      | (
                        (go_at_call 24
                         refine (HL.out _).mono ?_
                         rintro e w3 ⟨rfl, b3⟩
                         rw [HZa.out, HS2.out]
                         have K3 := Lib.hid (HQ.out.later (Fr.of_below (S := fun _ => False) b3))
                         have d3 := K3.out.rev.ca
                         have e3' := K3.out.rev.frozen 33
                         have K4 := Lib.hid (HSA.out w3 K3.out)
                         clear b3))
                      | (go_at_call 26; refine (HNU.out _).mono ?_; rintro e w' ⟨rfl, rfl⟩)
                      | (refine wpList_build_to rfl 50 _ rfl #[] (by first | rfl | simp [Act.eval]) (.agg zeroR) (HBZ.out _) ?_)
                      | (
                        (refine wpList_store_at rfl 50 _ _ rfl w.heap.size 0 50 zeroR zeroR rfl rfl K5.out.zero (by decide) size36 zeroR_one ?_
                         intro w6 hwz hf6
                         rw [laidAt_all _ _ rfl] at hwz
                         have FZ := K5.out.fr.trans hf6 (fun i hi e => by omega))))
                    (
                      refine bodyPost_ret (v := .tuple #[.agg zeroR, .int .i64 12]) (results_cell_slot (p := 2) (u := 3) rfl _ _ _ _ _ _ rfl hwz Tryz.underlying50 rfl size36) rfl ?_
                      exact GetPost.bad HG.out rfl FZ)
                  · have hix : ∀ w, (Instr.index 9 (.string S3) (.int .i64 0)).run Tryz.prog w = .ok (.int .u8 (c0.toNat : Nat)) w := fun w => by have := index_str (P := Tryz.prog) w Tryz.underlying9 (c0 :: r4) 0 (by simp); rw [hS3] at this; exact this
                    have hne3 : ¬ S3.toList = [] := by rw [hl3z]; simp
                    have hie : S3.toList.isEmpty = false := by rw [hl3z]; rfl
                    have hsl := fun w => slice_from (P := Tryz.prog) w Tryz.underlying9 (c0 :: r4) 1 (by simp)
                    rw [hS3] at hsl
                    rw [show (c0 :: r4).drop 1 = r4 from rfl] at hsl
                    have hl4 : r4.length + 1 < r2.length := hl3.2
                    by_cases hc0 : c0 = 10
                    · subst hc0
                      have HG4 := Lib.hid (show X = getC (some ⟨T, acc, a, valN t, r4⟩) by rw [HG3.out]; rfl)
                      rw [show ((10 : UInt8).toNat : Int) = 10 from rfl] at hix
                      have hsl' : ∀ w, (Instr.slice 9 (.string S3) (some (.int .i64 1)) none none).run Tryz.prog w = .ok (.string (strB r4)) w := hsl
                      have HSN := Lib.hid (fun (w5 : World) (h : Qk w w5 g8 base T v acc a 0 []) => (h.put (p := ⟨w.heap.size + 1, 34, none⟩) rfl (.int .i64 (valN t)) (h.rev.setN (valN t)) : Qk w _ g8 base T v acc a (valN t) []))
                      have HSX := Lib.hid (fun (w5 : World) (h : Qk w w5 g8 base T v acc a (valN t) []) => (h.put (p := ⟨w.heap.size + 1, 35, none⟩) rfl (.string (strB r4)) (h.rev.setT r4) : Qk w _ g8 base T v acc a (valN t) r4))
                      obtain ⟨A4, k4, hv4, hk4, _⟩ := own_slice HQ.out.own
                      have hpl := HBG.out
                      have HCK := Lib.hid (fun (w5 : World) (h5 : Lies w5 A4 (flatI acc)) => QvCheck_any T A4 k4 acc a (valN t) r4 hpl (by omega) (by omega) w5 h5)
                      subst hv4
                      have hrs' := revC_size T (.slice A4 acc.length k4) a (valN t) r4
                      have hro' := revC_one T (.slice A4 acc.length k4) a (valN t) r4 rfl
                      obtain ⟨cr, hcr⟩ : ∃ c, revC T (.slice A4 acc.length k4) a (valN t) r4 = c := ⟨_, rfl⟩
                      have HCR := Lib.hid hcr
                      have hcr2 := hcr
                      rw [HNN.out] at hcr2
                      have HCR2 := Lib.hid hcr2
                      rw [hcr] at HCK hrs' hro'
                      rw [HNN.out] at HSN HSX
                      clear hcr2
                      obtain ⟨S4, hS4⟩ : ∃ Z, strB r4 = Z := ⟨_, rfl⟩
                      rw [hS4] at hsl' HSX
                      have HGok := Lib.hid (fun h => getC_ok (R := ⟨T, acc, a, valN t, r4⟩) h)
                      have HGbad := Lib.hid (fun h => getC_bad (R := ⟨T, acc, a, valN t, r4⟩) h)
                      simp only [] at HGok HGbad
                      obtain ⟨q, hq'⟩ : ∃ q, chkE acc a (valN t) r4 = q := ⟨_, rfl⟩
                      rw [hq'] at HCK HGok HGbad
                      clear hS3 hvb hsl hcr hS4 hq' hpl
                      by_cases hq0 : q = 0
                      · subst hq0
                        go_wp2_with (first
                          | (have _ := K4; go_at_call 24; refine (HM.out _).mono ?_; rintro e w5 ⟨rfl, b5⟩; rw [HZt.out, HS3.out]; have K5 := Lib.hid (K4.out.later (Fr.of_below (S := fun _ => False) b5)); have d5 := K5.out.rev.cn; have e5 := K5.out.rev.frozen 34; have K6 := Lib.hid (HSN.out _ K5.out); have d6 := K6.out.rev.ct; have e6 := K6.out.rev.frozen 35; have K7 := Lib.hid (HSX.out _ K6.out))
                          | (
                            (go_at_call 24
                             refine (HL.out _).mono ?_
                             rintro e w3 ⟨rfl, b3⟩
                             rw [HZa.out, HS2.out]
                             have K3 := Lib.hid (HQ.out.later (Fr.of_below (S := fun _ => False) b3))
                             have d3 := K3.out.rev.ca
                             have e3' := K3.out.rev.frozen 33
                             have K4 := Lib.hid (HSA.out w3 K3.out)
                             clear b3))
                          | (go_at_call 26; refine (HNU.out _).mono ?_; rintro e w' ⟨rfl, rfl⟩)
                          | (have _ := K8; refine wpList_load_row rfl 50 _ rfl _ rfl 50 cr _ _ (by rw [← HCR2.out]; exact K8.out.rev) Tryz.underlying50 rfl (by rw [hrs']; exact size36) ?_)
                          | (refine wpList_load_row rfl 50 _ rfl _ rfl 50 cr _ _ (by rw [← HCR2.out]; exact K7.out.rev) Tryz.underlying50 rfl (by rw [hrs']; exact size36) ?_)
                          | (go_at_call 27; refine (HCK.out _ (Lies.of_own32 K7.out.own)).mono ?_; rintro e w8 ⟨rfl, b8⟩; have K8 := Lib.hid (K7.out.later (Fr.of_below (S := fun _ => False) b8)))
                          | (refine wpList_store_at rfl 50 _ _ rfl w.heap.size 0 50 zeroR cr rfl rfl K8.out.zero (by rw [hrs']; decide) (by rw [hrs']; exact size36) hro' ?_
                             intro w9 hwz hf9
                             rw [laidAt_all _ _ (by rw [hrs']; rfl)] at hwz
                             have FZ := K8.out.fr.trans hf9 (fun i hi e => by omega)))
                        refine bodyPost_ret (v := .tuple #[.agg cr, .int .i64 0]) (results_cell_slot (p := 2) (u := 3) rfl _ _ _ _ _ _ rfl hwz Tryz.underlying50 rfl (by rw [hrs']; exact size36)) rfl ?_
                        refine GetPost.good (R := ⟨T, acc, a, valN t, r4⟩) (v := .slice A4 acc.length k4) (by rw [HG4.out]; exact HGok.out (by first | rfl | trivial)) (by rw [← HCR.out]) ⟨?_, FZ⟩
                        have o9 := own_fr K8.out.own hf9 (fun k hk e => by have := (World.ownsRow.lt K8.out.own k hk).1; have := K8.out.lt1; have := K8.out.lt2; omega)
                        refine ⟨o9.1, ?_⟩
                        rcases o9.2 with h0 | ⟨gg, cap, cur, hv, hb, rr⟩
                        · exact .inl h0
                        · exact .inr ⟨gg, cap, cur, hv, by have := K8.out.lt1; have := K8.out.lt2; omega, rr⟩
                      · have hqz : (q == 0) = false := by simp [hq0]
                        go_wp2_with (first
                          | (have _ := K4; go_at_call 24; refine (HM.out _).mono ?_; rintro e w5 ⟨rfl, b5⟩; rw [HZt.out, HS3.out]; have K5 := Lib.hid (K4.out.later (Fr.of_below (S := fun _ => False) b5)); have d5 := K5.out.rev.cn; have e5 := K5.out.rev.frozen 34; have K6 := Lib.hid (HSN.out _ K5.out); have d6 := K6.out.rev.ct; have e6 := K6.out.rev.frozen 35; have K7 := Lib.hid (HSX.out _ K6.out))
                          | (
                            (go_at_call 24
                             refine (HL.out _).mono ?_
                             rintro e w3 ⟨rfl, b3⟩
                             rw [HZa.out, HS2.out]
                             have K3 := Lib.hid (HQ.out.later (Fr.of_below (S := fun _ => False) b3))
                             have d3 := K3.out.rev.ca
                             have e3' := K3.out.rev.frozen 33
                             have K4 := Lib.hid (HSA.out w3 K3.out)
                             clear b3))
                          | (go_at_call 26; refine (HNU.out _).mono ?_; rintro e w' ⟨rfl, rfl⟩)
                          | (refine wpList_load_row rfl 50 _ rfl _ rfl 50 cr _ _ (by rw [← HCR2.out]; exact K7.out.rev) Tryz.underlying50 rfl (by rw [hrs']; exact size36) ?_)
                          | (go_at_call 27; refine (HCK.out _ (Lies.of_own32 K7.out.own)).mono ?_; rintro e w8 ⟨rfl, b8⟩; have K8 := Lib.hid (K7.out.later (Fr.of_below (S := fun _ => False) b8)))
                          | (refine wpList_build_to rfl 50 _ rfl #[] (by first | rfl | simp [Act.eval]) (.agg zeroR) (HBZ.out _) ?_)
                          | (
                            (refine wpList_store_at rfl 50 _ _ rfl w.heap.size 0 50 zeroR zeroR rfl rfl K8.out.zero (by decide) size36 zeroR_one ?_
                             intro w6 hwz hf6
                             rw [laidAt_all _ _ rfl] at hwz
                             have FZ := K8.out.fr.trans hf6 (fun i hi e => by omega))))
                        refine bodyPost_ret (v := .tuple #[.agg zeroR, .int .i64 q]) (results_cell_slot (p := 2) (u := 3) rfl _ _ _ _ _ _ rfl hwz Tryz.underlying50 rfl size36) rfl ?_
                        exact GetPost.bad (by rw [HG4.out]; exact HGbad.out hq0) rfl FZ
                    · have HG := Lib.hid (show X = (zeroP, 12) by
                        rw [HG3.out, revL4, textL, if_neg]
                        · rfl
                        · simp [List.isPrefixOf]; exact fun e => hc0 e.symm)
                      have hcz : (((c0.toNat : Nat) : Int) == 10) = false := by
                        rw [beq_eq_false_iff_ne]
                        intro e
                        exact hc0 (UInt8.toNat_inj.1 (by show _ = 10; omega))
                      obtain ⟨xc, hxc⟩ : ∃ x : Int, ((c0.toNat : Nat) : Int) = x := ⟨_, rfl⟩
                      rw [hxc] at hix hcz
                      clear hS3 hvb hsl hxc hc0
                      go_wp2_with (first
                        | (have _ := K4; go_at_call 24; refine (HM.out _).mono ?_; rintro e w5 ⟨rfl, b5⟩; rw [HZt.out, HS3.out]; have K5 := Lib.hid (K4.out.later (Fr.of_below (S := fun _ => False) b5)))
                        | (
                          (go_at_call 24
                           refine (HL.out _).mono ?_
                           rintro e w3 ⟨rfl, b3⟩
                           rw [HZa.out, HS2.out]
                           have K3 := Lib.hid (HQ.out.later (Fr.of_below (S := fun _ => False) b3))
                           have d3 := K3.out.rev.ca
                           have e3' := K3.out.rev.frozen 33
                           have K4 := Lib.hid (HSA.out w3 K3.out)
                           clear b3))
                        | (go_at_call 26; refine (HNU.out _).mono ?_; rintro e w' ⟨rfl, rfl⟩)
                        | (refine wpList_build_to rfl 50 _ rfl #[] (by first | rfl | simp [Act.eval]) (.agg zeroR) (HBZ.out _) ?_)
                        | (
                          (refine wpList_store_at rfl 50 _ _ rfl w.heap.size 0 50 zeroR zeroR rfl rfl K5.out.zero (by decide) size36 zeroR_one ?_
                           intro w6 hwz hf6
                           rw [laidAt_all _ _ rfl] at hwz
                           have FZ := K5.out.fr.trans hf6 (fun i hi e => by omega))))
                      (
                        refine bodyPost_ret (v := .tuple #[.agg zeroR, .int .i64 12]) (results_cell_slot (p := 2) (u := 3) rfl _ _ _ _ _ _ rfl hwz Tryz.underlying50 rfl size36) rfl ?_
                        exact GetPost.bad HG.out rfl FZ)
                · have HG := Lib.hid (show X = (zeroP, 12) by rw [HG2.out, revL3, numL, htm]; simp only []; rw [h1]; rfl)
                  rw [h2] at hnu
                  have HNU := Lib.hid hnu
                  clear h1 h2 htm hlm hZt hnu hS3 hl3z
                  go_wp2_with (first
                    | (have _ := K4; go_at_call 24; refine (HM.out _).mono ?_; rintro e w5 ⟨rfl, b5⟩; rw [HZt.out, HS3.out]; have K5 := Lib.hid (K4.out.later (Fr.of_below (S := fun _ => False) b5)))
                    | (
                      (go_at_call 24
                       refine (HL.out _).mono ?_
                       rintro e w3 ⟨rfl, b3⟩
                       rw [HZa.out, HS2.out]
                       have K3 := Lib.hid (HQ.out.later (Fr.of_below (S := fun _ => False) b3))
                       have d3 := K3.out.rev.ca
                       have e3' := K3.out.rev.frozen 33
                       have K4 := Lib.hid (HSA.out w3 K3.out)
                       clear b3))
                    | (go_at_call 26; refine (HNU.out _).mono ?_; rintro e w' ⟨rfl, rfl⟩)
                    | (refine wpList_build_to rfl 50 _ rfl #[] (by first | rfl | simp [Act.eval]) (.agg zeroR) (HBZ.out _) ?_)
                    | (
                      (refine wpList_store_at rfl 50 _ _ rfl w.heap.size 0 50 zeroR zeroR rfl rfl K5.out.zero (by decide) size36 zeroR_one ?_
                       intro w6 hwz hf6
                       rw [laidAt_all _ _ rfl] at hwz
                       have FZ := K5.out.fr.trans hf6 (fun i hi e => by omega))))
                  (
                    refine bodyPost_ret (v := .tuple #[.agg zeroR, .int .i64 12]) (results_cell_slot (p := 2) (u := 3) rfl _ _ _ _ _ _ rfl hwz Tryz.underlying50 rfl size36) rfl ?_
                    exact GetPost.bad HG.out rfl FZ))
end Go.Proofs.YtddckehejdpjcabGreatDoor
/- What is proved: the walk of the law RevGets, for all bytes. Conditions: the bytes' cells are there; the library's table lies as its text lays it. -/
namespace Go.Proofs.YtddckehejdpjcabGreatDoor
open Go.RowKit Go.Sort Go.Shelf
open Ids (idC dgt big idC_size idC_get idC_one cellD zero32 size32 dgt_lt hexB)
set_option linter.unusedVariables false
theorem own_none1 (w : World) : (w.alloc (.cells #[] 5)).ownsRow w.heap.size 5 1 (.slice (some ⟨w.heap.size, 0, none⟩) 0 0) 0 [] :=
  World.ownsRow_made w #[] 0 (Nat.le_refl _) (Nat.zero_le _) rfl
theorem own_copyB {w1 wa : World} {vO : Value} {l : List UInt8} {L : Nat} (hL : l.length = L) (o1 : wa.ownsRow w1.heap.size 5 1 vO (0 + L) ([] ++ bytesV l)) (g1 : (w1.alloc (.cells #[] 5)).grownBy wa (Value.slice (some ⟨w1.heap.size, 0, none⟩) 0 0).ownBlock) : ∃ A c, vO = .slice A L c ∧ L ≤ c ∧ Lies wa A (bytesV l) ∧ Fr (fun _ => False) w1 wa := by
  have f : Fr (fun _ => False) w1 wa := fr_append (own_none1 w1) ((Fr.refl (fun _ => False) w1).alloc _) g1
  have h : OwnB w1 wa vO l := ⟨by rw [hL]; simpa using o1, f⟩
  obtain ⟨A, c, hv, hc, hl, _, _⟩ := h.slice
  exact ⟨A, c, by rw [hv, hL], by omega, hl, h.2⟩
theorem getR_props (l : List UInt8) : (getR l).1.ps.length ≤ l.length ∧ (∀ n ∈ (getR l).1.ps, n < big) ∧ (getR l).1.a.length ≤ l.length ∧ (getR l).1.t.length ≤ l.length ∧ (getR l).1.T < big := by
  have hz : zeroP.ps.length ≤ l.length ∧ (∀ n ∈ zeroP.ps, n < big) ∧ zeroP.a.length ≤ l.length ∧ zeroP.t.length ≤ l.length ∧ zeroP.T < big := ⟨Nat.zero_le _, by simp [zeroP], Nat.zero_le _, Nat.zero_le _, by decide⟩
  rw [getR]
  cases h : revL l with
  | none => exact hz
  | some R =>
    have hp := revL_props h
    by_cases h0 : chkE R.ps R.a R.n R.t = 0
    · rw [getC_ok h0]; exact ⟨hp.1, hp.2.1, hp.2.2.1, hp.2.2.2.1, hp.2.2.2.2.2⟩
    · rw [getC_bad h0]; exact hz
end Go.Proofs.YtddckehejdpjcabGreatDoor

/- What is proved: the walk of the law ObjectLinks, for every kind and body. Conditions: the library's table lies as its text lays it; the body's cells are there. -/
import Derived.Test.YtddckehejdpjcabGreatDoorOlf
import Derived.Test.YtddckehejdpjcabGreatDoorObf
import Derived.Laws.StructEq
namespace Go.Proofs.YtddckehejdpjcabGreatDoor
open Go.RowKit Go.Sort Go.Shelf
set_option linter.unusedVariables false

theorem run_equal_sameO {P : Program} (w : World) (d : Nat) (t e : TypeId) (n : Nat) (k : IntKind) (ht : P.underlying t = some (.array n e)) (he : P.underlying e = some (.int k)) (hsz : ∀ w, (sizeOf e).run P w = .ok 1 w)
    (zs : List Int) (hz : zs.length = n) : (Op.equalIn (d + 2) t (.agg (zs.map (Value.int k)).toArray) (.agg (zs.map (Value.int k)).toArray)).run P w = .ok true w := by
  rw [Op.equalIn]
  simp only [Sem.run_bind, run_underlying ht, Result.andThen_ok, hsz, Std.Legacy.Range.forIn_eq_forIn_range', Std.Legacy.Range.size, Nat.sub_zero, Nat.add_sub_cancel, Nat.div_one]
  have hl : ∀ i ∈ List.range' 0 n 1, i < n := fun i hi => by simpa using (List.mem_range'_1.1 hi).2
  generalize List.range' 0 n 1 = l at hl ⊢
  induction l with
  | nil => simp
  | cons i l ih =>
    have hi : i < n := hl i (by simp)
    have px : (part e (zs.map (Value.int k)).toArray (i * 1)).run P w = .ok (.int k (zs.getD i 0)) w := by
      simp [part, isAgg, run_underlying he, List.getD, List.getElem?_eq_getElem (show i < zs.length by omega)]
    have pe : (Op.equalIn (d + 1) e (.int k (zs.getD i 0)) (.int k (zs.getD i 0))).run P w = .ok true w := by
      rw [run_equalIn_int w d e k k _ _ he]
      simp
    simp only [List.forIn_cons, Sem.run_bind, px, pe, Result.andThen_ok]
    simp only [Bool.not_true, Bool.false_eq_true, if_false, Sem.run_pure, Result.andThen_ok]
    exact ih fun j hj => hl j (by simp [hj])
theorem eq32O (zs : List Int) (hz : zs.length = 32) (w : World) : (Op.equalIn 10000 32 (.agg (zs.map (Value.int .u8)).toArray) (.agg (zs.map (Value.int .u8)).toArray)).run Tryz.prog w = .ok true w :=
  run_equal_sameO (P := Tryz.prog) w 9998 32 5 32 .u8 Tryz.underlying32 Tryz.underlying5 (fun _ => by kernel_rfl) zs hz
theorem eq_lnk (x : Lnk) (w : World) : (Op.equalIn 10000 32 (.agg (idV x)) (.agg (idV x))).run Tryz.prog w = .ok true w := eq32O x.z x.hz w
theorem links_len (k : Int) (l : List UInt8) : (linksO k l).length ≤ l.length + 1 := by
  by_cases h0 : chkO k l = 0
  · have hk : k = 1 ∨ k = 2 ∨ k = 3 ∨ k = 4 := by have := chkO_small h0; omega
    rcases hk with rfl | rfl | rfl | rfl
    · rw [links_1]; exact Nat.zero_le _
    · rw [links_2 h0, List.length_map]
      have := getW_len l.length l [] (Nat.le_refl _)
      rw [List.length_nil] at this
      omega
    · rw [links_3 h0, List.length_cons, List.length_map]
      have := (getR_props l).1
      omega
    · rw [links_4 h0]; simp
  · rw [links_bad h0]; exact Nat.zero_le _
theorem kind_cell {w w' : World} {b o : Nat} {es : List Lnk} {i : Nat} {e : Lnk} (h : Lies w (some ⟨b, o, none⟩) (flatL es)) (hi : es[i]? = some e) (f : Fr (fun _ => False) w w') : w'.cell? ⟨b, o + i * 33 + 32, none⟩ = some (.int .i64 e.k) := cell_lnk h hi f 32 _ (kind_at e)

set_option maxHeartbeats 6400000 in
set_option maxRecDepth 100000 in
theorem links_walk (k : Int) (A : Option Addr) (c : Nat) (l : List UInt8) (hcap : l.length ≤ c) (w : World) (hl : Lies w A (bytesV l)) (hTab : Tab10 w) :
    Calls Tryz.prog 3 #[.int .i64 k, .slice A l.length c] w fun e w' => e = .returned (.bool true) ∧ Below w.heap.size w w' := by
  have HL := Lib.hid (fun w' (f : Fr (fun _ => False) w w') => hl.fr f (fun _ _ e => e))
  have C9 := Lib.hid (fun w' (f : Fr (fun _ => False) w w') => works8_any w' (hTab.fr f))
  by_cases hbig : 5000 < l.length
  · have hgt : (5000 : Int) < (l.length : Int) := by omega
    obtain ⟨L, hL⟩ : ∃ L, l.length = L := ⟨_, rfl⟩
    rw [hL] at hgt ⊢
    clear hL hl hbig HL hcap hTab
    go_enter Tryz.func3, Tryz.ntmps3
    go_wp2_with (go_at_call 4; refine (C9.out _ (Fr.refl _ _)).mono ?_; rintro e w2 ⟨rfl, f2⟩)
    go_ret
    exact ⟨rfl, f2.below (fun _ _ e => e)⟩
  · have C1 := Lib.hid (ObLinks_any k A c l hcap w hl)
    have C2 := Lib.hid (fun w' (f : Fr (fun _ => False) w w') => QbLinks_any k A c l hcap w' (HL.out w' f))
    have hml := links_len k l
    obtain ⟨r, hr⟩ : ∃ r, chkO k l = r := ⟨_, rfl⟩
    obtain ⟨M, hM⟩ : ∃ M, linksO k l = M := ⟨_, rfl⟩
    obtain ⟨n, hn⟩ : ∃ n, M.length = n := ⟨_, rfl⟩
    have HNn := Lib.hid hn
    obtain ⟨L, hL⟩ : ∃ L, l.length = L := ⟨_, rfl⟩
    rw [hr, hM, hL] at C1 C2
    rw [hM, hn, hL] at hml
    rw [hL] at hbig
    rw [hL]
    have hle : ¬ ((5000 : Int) < (L : Int)) := by omega
    obtain ⟨T32, hT32⟩ : ∃ T : TypeId, T = 32 := ⟨_, rfl⟩
    obtain ⟨n32, hn32⟩ : ∃ n : Nat, n = 32 := ⟨_, rfl⟩
    have ag32 : ∀ w, (isAgg T32).run Tryz.prog w = .ok true w := by rw [hT32]; exact fun _ => by kernel_rfl
    have sz32 : ∀ w, (sizeOf T32).run Tryz.prog w = .ok n32 w := by rw [hT32, hn32]; exact fun _ => by kernel_rfl
    have HN32 := Lib.hid hn32
    clear hr hM hn hL hl hTab hcap HL hn32
    go_enter Tryz.func3, Tryz.ntmps3
    rw [show Op.load 32 (.tmp 45) = Op.load T32 (.tmp 45) by rw [hT32], show Op.load 32 (.tmp 50) = Op.load T32 (.tmp 50) by rw [hT32]]
    clear hT32
    go_wp2_with (first
      | (go_at_call 5; refine C1.out.mono ?_; rintro e w1 ⟨v1, rfl, o⟩; have F1 := Lib.hid o.2; obtain ⟨A1, c1, rfl, hc1, hs1, hl1⟩ := o.slice; have L1 := Lib.hid hl1; have S1 := Lib.hid hs1; rw [HNn.out]; clear o hc1 hs1 hl1)
      | (go_at_call 6; refine (C2.out _ F1.out).mono ?_; rintro e w2 ⟨v2, rfl, o⟩; have F2 := Lib.hid (F1.out.trans o.2 (fun _ _ e => e)); have L1' := Lib.hid (L1.out.fr o.2 (fun _ _ e => e)); obtain ⟨A2, c2, rfl, hc2, hs2, hl2⟩ := o.slice; have L2 := Lib.hid hl2; have S2 := Lib.hid hs2; rw [HNn.out]; clear o hc2 hs2 hl2))
    go_loopg [9] n (fun kx s9 wr => ∃ j : Nat, s9 = .int .i64 j ∧ j ≤ n ∧ n - j ≤ kx ∧ Fr (fun _ => False) w2 wr)
    case atStart => exact ⟨0, rfl, by omega, by omega, Fr.refl _ _⟩
    case round =>
      obtain ⟨j, rfl, hj, hjx, hf⟩ := hrel
      obtain ⟨wo, rfl⟩ : ∃ wo, wo = wr := ⟨wr, rfl⟩
      have HFr := Lib.hid hf
      clear hf
      have wk := wrap_n j (by omega)
      by_cases hlt : j < n
      · have hltz : (j : Int) < n := by omega
        obtain ⟨b1, hA⟩ := S1.out (by rw [HNn.out]; omega)
        subst hA
        obtain ⟨b2, hA⟩ := S2.out (by rw [HNn.out]; omega)
        subst hA
        obtain ⟨x, hx⟩ := lnk_of_mem (es := M) (i := j) (by rw [HNn.out]; omega)
        have l1 : ∀ q : Later wo, (loadCellsFrom ⟨b1, 0 + j * 33, none⟩ 0 n32 #[]).run Tryz.prog q.w' = .ok (idV x) q.w' := fun q => load_lnk L1'.out hx (HFr.out.trans q.fr (fun _ _ e => e)) n32 HN32.out
        have l2 : ∀ q : Later wo, (loadCellsFrom ⟨b2, 0 + j * 33, none⟩ 0 n32 #[]).run Tryz.prog q.w' = .ok (idV x) q.w' := fun q => load_lnk L2.out hx (HFr.out.trans q.fr (fun _ _ e => e)) n32 HN32.out
        have k1 : ∀ q : Later wo, q.w'.cell? ⟨b1, 0 + j * 33 + 32, none⟩ = some (.int .i64 x.k) := fun q => kind_cell L1'.out hx (HFr.out.trans q.fr (fun _ _ e => e))
        have k2 : ∀ q : Later wo, q.w'.cell? ⟨b2, 0 + j * 33 + 32, none⟩ = some (.int .i64 x.k) := fun q => kind_cell L2.out hx (HFr.out.trans q.fr (fun _ _ e => e))
        rw [Nat.zero_add] at l1 l2 k1 k2
        have heq := fun w => eq_lnk x w
        obtain ⟨ci, hci⟩ : ∃ c, idV x = c := ⟨_, rfl⟩
        rw [hci] at l1 l2 heq
        obtain ⟨kk, hkk⟩ : ∃ c, x.k = c := ⟨_, rfl⟩
        rw [hkk] at k1 k2
        clear hx hci hkk
        go_wp2_with fail
        refine wp_region_later (w0 := wo) (Fr.refl _ _) (by kernel_rfl) (by kernel_rfl) ?_
        repeat (quiet_step (fail))
        refine wpQuiet_nil ?_
        intro _ hw'
        obtain ⟨q, hw''⟩ := hw'
        subst hw''
        go_wp2_with fail
        go_roundg (n - (j + 1))
        case measure => omega
        case rel => exact ⟨j + 1, by go_num, by omega, Nat.le_refl _, HFr.out.trans q.fr (fun _ _ e => e)⟩
      · obtain rfl : j = n := by omega
        have C8 := Lib.hid (C9.out wo (F2.out.trans HFr.out (fun _ _ e => e)))
        go_wp2_with (go_at_call 4; refine C8.out.mono ?_; rintro e w9 ⟨rfl, f9⟩)
        go_ret
        exact ⟨rfl, ((F2.out.trans HFr.out (fun _ _ e => e)).trans f9 (fun _ _ e => e)).below (fun _ _ e => e)⟩
end Go.Proofs.YtddckehejdpjcabGreatDoor

/- What is proved: whether entries may be a tree, by the program. Conditions: the list's cells are there. -/
import Derived.Test.YtcbgpbcfpeanjaaTrl
namespace Go.Proofs.Ytcbgpbcfpeanjaa
open Go.RowKit Go.Sort Go.Shelf
set_option linter.unusedVariables false

theorem firstBad_drop (es : List Ent) (k : Nat) (hk : k < es.length) : firstBad (es.drop k) = if modeB es[k]!.mode = false then 16 else if nameB es[k]!.name = false then 15 else firstBad (es.drop (k + 1)) := by
  rw [List.drop_eq_getElem_cons hk, firstBad, getElem!_pos es k hk]
theorem size_ent : (Try.prog.info? 45).map (·.size) = some 34 := by kernel_rfl

/-- A zero entry's cells. -/
def zeroE : Array Value := (.string { data := #[] } :: .int .i64 0 :: List.replicate 32 (Value.int .u8 0)).toArray
theorem zeroE_eq : (entV default).toArray = zeroE := rfl
theorem zeroE_size : zeroE.size = 34 := rfl
theorem entV_size (e : Ent) : (entV e).toArray.size = 34 := by rw [List.size_toArray, entV_len]
theorem entV_all (e : Ent) : (entV e).toArray.all (·.oneCell') = true := Array.all_eq_true_iff_forall_mem.2 (fun v hv => entV_one e v (by simpa using hv))
theorem entV_name (e : Ent) : (entV e).toArray[0]? = some (.string (strB e.name)) := rfl
theorem entV_mode (e : Ent) : (entV e).toArray[1]? = some (.int .i64 e.mode) := rfl

set_option maxHeartbeats 3200000 in
theorem TCheck_any (A : Option Addr) (cap : Nat) (es : List Ent) (hn : es.length ≤ 100000) (w : World) (h : Lies w A (flatE es)) :
    Calls Try.prog 10 #[.slice A es.length cap] w fun e w' => e = .returned (.int .i64 (chk es)) ∧ Below w.heap.size w w' := by
  have HLI := Lib.hid h
  have HC : Hid (chk es = if 64 < es.length then 3 else if firstBad es = 0 then (if twB es = true then 17 else if isrB es = true then 0 else 18) else firstBad es) := Lib.hid rfl
  have HT := Lib.hid (fun w1 (f : Fr (fun _ => False) w w1) => Ttwice_any A cap es hn w1 (h.fr f (fun _ _ e => e)))
  have HS := Lib.hid (fun w1 (f : Fr (fun _ => False) w w1) => GIsSorted_any A cap es hn w1 (h.fr f (fun _ _ e => e)))
  have HD := Lib.hid (firstBad_drop es)
  obtain ⟨r, hr⟩ : ∃ r, chk es = r := ⟨_, rfl⟩
  obtain ⟨L, hL⟩ : ∃ L, es.length = L := ⟨_, rfl⟩
  have HLn := Lib.hid hL
  obtain ⟨T, hT⟩ : ∃ T : TypeId, T = 45 := ⟨_, rfl⟩
  obtain ⟨n34, h34⟩ : ∃ n : Nat, n = 34 := ⟨_, rfl⟩
  have ag34 : ∀ w, (isAgg T).run Try.prog w = .ok true w := by rw [hT]; exact fun _ => by kernel_rfl
  have sz34 : ∀ w, (sizeOf T).run Try.prog w = .ok n34 w := by rw [hT, h34]; exact fun _ => by kernel_rfl
  have HN := Lib.hid h34
  rw [hr] at HC ⊢
  rw [hL] at hn HC HT HS HD ⊢
  clear h hr hL h34
  go_enter Try.func10, Try.ntmps10
  rw [show Op.load 45 (.tmp 12) = Op.load T (.tmp 12) by rw [hT]]
  clear hT
  by_cases hlen : 64 < L
  · have hlz : (64 : Int) < L := by omega
    go_wp2
    go_ret
    exact ⟨by rw [HC.out, if_pos hlen]; rfl, (Fr.refl (fun _ => False) w).below (fun _ _ e => e)⟩
  · have hlz : ¬ ((64 : Int) < L) := by omega
    go_wp2
    go_loopg [10] L (fun kx s10 wr => ∃ k : Nat, s10 = .int .i64 k ∧ k ≤ L ∧ L - k ≤ kx ∧ Fr (fun _ => False) w wr ∧ Hid (firstBad es = firstBad (es.drop k)))
    case atStart => exact ⟨0, rfl, by omega, by omega, Fr.refl _ _, Lib.hid rfl⟩
    case round =>
      obtain ⟨k, rfl, hk, hkx, hf, HB⟩ := hrel
      obtain ⟨wo, rfl⟩ : ∃ wo, wo = wr := ⟨wr, rfl⟩
      have HFr := Lib.hid hf
      clear hf
      have wk := wrap_nat k (by omega)
      by_cases hlt : k < L
      · have hltz : (k : Int) < L := by omega
        obtain ⟨b, o, hB⟩ := HLI.out.someE (by rw [HLn.out]; omega)
        subst hB
        have l1 : (loadCellsFrom ⟨b, o + k * 34, none⟩ 0 n34 #[]).run Try.prog wo = .ok (entV es[k]!).toArray wo := load_ent HLI.out (some_of_mem (by rw [HLn.out]; omega)) HFr.out n34 HN.out
        have HDk := Lib.hid (HD.out k hlt)
        obtain ⟨x, hx⟩ : ∃ x, es[k]! = x := ⟨_, rfl⟩
        rw [hx] at l1 HDk
        (
          obtain ⟨w1, hw1⟩ : ∃ w1, wo.alloc (.cells zeroE 45) = w1 := ⟨_, rfl⟩
          have HZ := Lib.hid (show Whole w1 wo.heap.size 45 zeroE from by subst hw1; exact Whole.new wo 45 zeroE)
          have HF1 := Lib.hid (show Fr (fun _ => False) wo w1 from by subst hw1; exact (Fr.refl _ wo).alloc _)
          unfold zeroE at hw1
          simp [List.replicate] at hw1)
        have hcs := entV_size x
        have HO := Lib.hid (entV_all x)
        have HN0 := Lib.hid (entV_name x)
        have HM0 := Lib.hid (entV_mode x)
        obtain ⟨ca, hca⟩ : ∃ c, (entV x).toArray = c := ⟨_, rfl⟩
        rw [hca] at l1 hcs HO HN0 HM0
        have cm := fun w => TisMode_any x.mode w
        have cn := fun w => RtName_any x.name (by have := x.hn; omega) w
        obtain ⟨S, hS⟩ : ∃ S, strB x.name = S := ⟨_, rfl⟩
        obtain ⟨m, hm⟩ : ∃ m, x.mode = m := ⟨_, rfl⟩
        obtain ⟨b1, hb1⟩ : ∃ b, modeB m = b := ⟨_, rfl⟩
        obtain ⟨b2, hb2⟩ : ∃ b, nameB x.name = b := ⟨_, rfl⟩
        rw [hS, hb2] at cn
        rw [hS] at HN0
        rw [hm] at cm HM0 HDk
        rw [hb1] at cm HDk
        rw [hb2] at HDk
        clear hx hca hS hm hb1 hb2
        cases b1
        · go_wp2_with (first
            | (refine wpList_store_at rfl 45 _ _ rfl wo.heap.size 0 45 zeroE ca rfl rfl HZ.out (by rw [zeroE_size, hcs]; exact Nat.le_refl _) (by rw [hcs]; exact size_ent) HO.out ?_; intro w2 hw2 hf2; rw [laidAt_all _ _ (by rw [zeroE_size, hcs])] at hw2; have c0 : w2.cell? ⟨wo.heap.size, 0, none⟩ = some (.string S) := (by rw [hw2.cell]; exact HN0.out); have c1 : w2.cell? ⟨wo.heap.size, 1, none⟩ = some (.int .i64 m) := (by rw [hw2.cell]; exact HM0.out); have hfr2 : Fr (fun _ => False) w w2 := (HFr.out.trans HF1.out (fun _ _ e => e)).trans hf2 (fun i hi e => by have := HFr.out.size; omega); have HF2 := Lib.hid hfr2; clear hw2 hf2 hfr2)
            | (go_at_call 25; refine (cm _).mono ?_; rintro e w' ⟨rfl, rfl⟩))
          (try simp only [Exit.inBlock, Exit.then])
          go_ret
          exact ⟨by rw [HC.out, if_neg hlen, HB.out, HDk.out]; simp, HF2.out.below (fun _ _ e => e)⟩
        · cases b2
          · go_wp2_with (first
              | (refine wpList_store_at rfl 45 _ _ rfl wo.heap.size 0 45 zeroE ca rfl rfl HZ.out (by rw [zeroE_size, hcs]; exact Nat.le_refl _) (by rw [hcs]; exact size_ent) HO.out ?_; intro w2 hw2 hf2; rw [laidAt_all _ _ (by rw [zeroE_size, hcs])] at hw2; have c0 : w2.cell? ⟨wo.heap.size, 0, none⟩ = some (.string S) := (by rw [hw2.cell]; exact HN0.out); have c1 : w2.cell? ⟨wo.heap.size, 1, none⟩ = some (.int .i64 m) := (by rw [hw2.cell]; exact HM0.out); have hfr2 : Fr (fun _ => False) w w2 := (HFr.out.trans HF1.out (fun _ _ e => e)).trans hf2 (fun i hi e => by have := HFr.out.size; omega); have HF2 := Lib.hid hfr2; clear hw2 hf2 hfr2)
              | (go_at_call 25; refine (cm _).mono ?_; rintro e w' ⟨rfl, rfl⟩)
              | (go_at_call 26; refine (cn _).mono ?_; rintro e w' ⟨rfl, rfl⟩))
            (try simp only [Exit.inBlock, Exit.then])
            go_ret
            exact ⟨by rw [HC.out, if_neg hlen, HB.out, HDk.out]; simp, HF2.out.below (fun _ _ e => e)⟩
          · go_wp2_with (first
              | (refine wpList_store_at rfl 45 _ _ rfl wo.heap.size 0 45 zeroE ca rfl rfl HZ.out (by rw [zeroE_size, hcs]; exact Nat.le_refl _) (by rw [hcs]; exact size_ent) HO.out ?_; intro w2 hw2 hf2; rw [laidAt_all _ _ (by rw [zeroE_size, hcs])] at hw2; have c0 : w2.cell? ⟨wo.heap.size, 0, none⟩ = some (.string S) := (by rw [hw2.cell]; exact HN0.out); have c1 : w2.cell? ⟨wo.heap.size, 1, none⟩ = some (.int .i64 m) := (by rw [hw2.cell]; exact HM0.out); have hfr2 : Fr (fun _ => False) w w2 := (HFr.out.trans HF1.out (fun _ _ e => e)).trans hf2 (fun i hi e => by have := HFr.out.size; omega); have HF2 := Lib.hid hfr2; clear hw2 hf2 hfr2)
              | (go_at_call 25; refine (cm _).mono ?_; rintro e w' ⟨rfl, rfl⟩)
              | (go_at_call 26; refine (cn _).mono ?_; rintro e w' ⟨rfl, rfl⟩))
            go_roundg (L - (k + 1))
            case measure => omega
            case rel => exact ⟨k + 1, by go_num, by omega, Nat.le_refl _, HF2.out, Lib.hid (by rw [HB.out, HDk.out]; simp)⟩
      · have hltz : ¬ ((k : Int) < L) := by omega
        have h0 : firstBad es = 0 := by rw [HB.out, List.drop_of_length_le (by rw [HLn.out]; omega)]; rfl
        have hc1 := HT.out wo HFr.out
        have HS1 := Lib.hid (fun w1 (b : Below wo.heap.size wo w1) => HS.out w1 (HFr.out.then_below b))
        have HH := Lib.hid h0
        obtain ⟨b1, hb1⟩ : ∃ b, twB es = b := ⟨_, rfl⟩
        obtain ⟨b2, hb2⟩ : ∃ b, isrB es = b := ⟨_, rfl⟩
        rw [hb1] at hc1 HC
        rw [hb2] at HC HS1
        have HC1 := Lib.hid hc1
        clear h0 hb1 hb2 hc1
        cases b1
        · cases b2
          · go_wp2_with (first
              | (go_at_call 27; refine HC1.out.mono ?_; rintro e w' ⟨rfl, bb⟩; have HB1 := Lib.hid bb; clear bb)
              | (go_at_call 28; refine (HS1.out _ HB1.out).mono ?_; rintro e w' ⟨rfl, bb⟩))
            go_ret
            exact ⟨by rw [HC.out, if_neg hlen, if_pos HH.out]; simp, ((HFr.out.then_below HB1.out).then_below bb).below (fun _ _ e => e)⟩
          · go_wp2_with (first
              | (go_at_call 27; refine HC1.out.mono ?_; rintro e w' ⟨rfl, bb⟩; have HB1 := Lib.hid bb; clear bb)
              | (go_at_call 28; refine (HS1.out _ HB1.out).mono ?_; rintro e w' ⟨rfl, bb⟩))
            go_ret
            exact ⟨by rw [HC.out, if_neg hlen, if_pos HH.out]; simp, ((HFr.out.then_below HB1.out).then_below bb).below (fun _ _ e => e)⟩
        · go_wp2_with (go_at_call 27; refine HC1.out.mono ?_; rintro e w' ⟨rfl, bb⟩; have HB1 := Lib.hid bb; clear bb)
          go_ret
          exact ⟨by rw [HC.out, if_neg hlen, if_pos HH.out]; simp, (HFr.out.then_below HB1.out).below (fun _ _ e => e)⟩
end Go.Proofs.Ytcbgpbcfpeanjaa

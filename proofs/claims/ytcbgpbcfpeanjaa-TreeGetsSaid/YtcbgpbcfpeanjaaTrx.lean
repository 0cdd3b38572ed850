/- What is proved: Same tells whether two slices of bytes hold the same bytes; the walk of the law TreePuts, for every list. Conditions: the lists' cells are there. -/
import Derived.Test.YtcbgpbcfpeanjaaTrw
namespace Go.Proofs.Ytcbgpbcfpeanjaa
open Go.RowKit Go.Sort Go.Shelf
set_option linter.unusedVariables false

theorem bytesV_nums (xs : List UInt8) : bytesV xs = (xs.map fun b => (b.toNat : Int)).map (Value.int .u8) := by simp [bytesV, byteV]
theorem run_convert_lies {P : Program} {w : World} {A : Option Addr} {xs : List UInt8} (src dst e : TypeId) (hs : P.underlying src = some (.slice e)) (he : P.underlying e = some (.int .u8)) (hd : P.underlying dst = some .string)
    (h : Lies w A (bytesV xs)) (c : Nat) : (convert src dst (.slice A xs.length c)).run P w = .ok (.string (strB xs)) w := by
  rcases A with _ | ad
  · have h0 : xs = [] := by
      rcases h with h | ⟨b, o, h, _⟩
      · simpa [bytesV] using h
      · cases h
    subst h0
    exact run_convert_bytes_nil w src e hs he 0 c dst hd
  · have hl : (loadCells ad xs.length).run P w = .ok (bytesV xs).toArray w := by
      have := run_loadCells_list (P := P) w ad (bytesV xs) (fun j v hj => by
        rcases h with h | ⟨b, o, h, hc⟩
        · rw [h] at hj; simp at hj
        · injection h with h
          subst h
          rw [add_off]
          exact hc j v hj)
      rwa [bytesV_length] at this
    rw [bytesV_nums] at hl
    rw [run_convert_bytes_string w src dst e _ _ c hs he hd, run_bytesToString w _ _ c (xs.map fun b => (b.toNat : Int)) hl, foldl_push_bytes]
    have hm : ((xs.map fun b => (b.toNat : Int)).map fun n => UInt8.ofNat n.toNat) = xs := by
      rw [List.map_map]
      conv => rhs; rw [← List.map_id xs]
      apply List.map_congr_left
      intro b _
      simp
    rw [hm]
    simp [strB, ByteArray.empty, ByteArray.emptyWithCapacity]
    rfl

set_option maxHeartbeats 800000 in
theorem Same_any (A B : Option Addr) (c d : Nat) (xs ys : List UInt8) (w : World) (ha : Lies w A (bytesV xs)) (hb : Lies w B (bytesV ys)) :
    Calls Try.prog 16 #[.slice A xs.length c, .slice B ys.length d] w fun e w' => e = .returned (.bool (xs == ys)) ∧ w = w' := by
  have e1 := run_convert_lies 30 9 5 Try.underlying30 Try.underlying5 Try.underlying9 ha c
  have e2 := run_convert_lies 30 9 5 Try.underlying30 Try.underlying5 Try.underlying9 hb d
  clear ha hb
  go_enter Try.func16, Try.ntmps16
  go_wp2
  go_ret
  exact ⟨ret_bool (by show ((strB xs).toList == (strB ys).toList) = _; rw [strB_list, strB_list]), rfl⟩

set_option maxHeartbeats 6400000 in
theorem puts_walk (A : Option Addr) (cap : Nat) (es : List Ent) (w : World) (hl : Lies w A (flatE es)) (hlen : es.length ≤ 9223372036854775807) :
    Calls Try.prog 4 #[.slice A es.length cap] w fun e w' => e = .returned (.bool true) ∧ Below w.heap.size w w' := by
  have HL := Lib.hid (fun w' (f : Fr (fun _ => False) w w') => hl.fr f (fun _ _ e => e))
  by_cases hbig : 100 < es.length
  · have hgt : (100 : Int) < (es.length : Int) := by omega
    obtain ⟨L, hL⟩ : ∃ L, es.length = L := ⟨_, rfl⟩
    rw [hL] at hgt ⊢
    clear hL hl hbig hlen HL
    go_enter Try.func4, Try.ntmps4
    go_wp2_with (go_at_call 8; refine (works6_any _).mono ?_; rintro e w2 ⟨rfl, b2⟩)
    go_ret
    exact ⟨rfl, b2⟩
  · obtain ⟨ss, hss⟩ : ∃ ss, srt (ltOf keyCmp) es = ss := ⟨_, rfl⟩
    have hsl : ss.length = es.length := by rw [← hss, srt_len]
    have C1 := Lib.hid (fun w' A c (h : Lies w' A (flatE es)) => TPut_any A c es (by omega) w' h)
    have C2 := Lib.hid (fun w' A c (h : Lies w' A (flatE es)) => QtPut_any A c es (by omega) w' h)
    have C3 := Lib.hid (fun w' A c (h : Lies w' A (flatE es)) => QtSorted_any A c es (by omega) w' h)
    have C4 := Lib.hid (fun w' A c (h : Lies w' A (flatE ss)) => TPut_any A c ss (by omega) w' h)
    have C5 := Lib.hid (fun w' A c (h : Lies w' A (flatE ss)) => QtPut_any A c ss (by omega) w' h)
    have C6 := Lib.hid (fun w' A B c d (h : Lies w' A (bytesV (putB es))) (h2 : Lies w' B (bytesV (putB es))) => Same_any A B c d (putB es) (putB es) w' h h2)
    have C7 := Lib.hid (fun w' A B c d (h : Lies w' A (bytesV (putB ss))) (h2 : Lies w' B (bytesV (putB ss))) => Same_any A B c d (putB ss) (putB ss) w' h h2)
    rw [beq_self_eq_true] at C6 C7
    rw [hss] at C3
    rw [hsl] at C4 C5
    obtain ⟨r, hr⟩ : ∃ r, chk es = r := ⟨_, rfl⟩
    obtain ⟨r2, hr2⟩ : ∃ r, chk ss = r := ⟨_, rfl⟩
    obtain ⟨p, hp⟩ : ∃ p, putB es = p := ⟨_, rfl⟩
    obtain ⟨p2, hp2⟩ : ∃ p, putB ss = p := ⟨_, rfl⟩
    obtain ⟨L, hL⟩ : ∃ L, es.length = L := ⟨_, rfl⟩
    have HSn := Lib.hid (hsl.trans hL)
    rw [hL] at C1 C2 C3 C4 C5 hbig ⊢
    rw [hr, hp] at C1 C2
    rw [hr2, hp2] at C4 C5
    rw [hp] at C6
    rw [hp2] at C7
    have hle : ¬ ((100 : Int) < (L : Int)) := by omega
    clear hL hl hsl hss hr hr2 hp hp2 hlen hbig
    go_enter Try.func4, Try.ntmps4
    go_wp2_with (first
      | (go_at_call 8; refine (works6_any wf).mono ?_; rintro e wh ⟨rfl, bh⟩)
      | (go_at_call 16; have _ := M3; refine (C7.out wf _ _ _ _ (l4.fr F5.out.2.2.2.1 (fun _ _ e => e)) l5).mono ?_; rintro e wg ⟨rfl, rfl⟩)
      | (go_at_call 16; refine (C6.out wf _ _ _ _ (l1.fr F5.out.2.1 (fun _ _ e => e)) (l2.fr F5.out.2.2.1 (fun _ _ e => e))).mono ?_; rintro e wg ⟨rfl, rfl⟩
         have M3 := True.intro)
      | (go_at_call 15; have _ := M2; refine (C5.out we _ _ (lS.fr F4.out.2.2.2 (fun _ _ e => e))).mono ?_; rintro e wf ⟨v5, rfl, h5⟩
         obtain ⟨A5, c5, rfl, _, l5⟩ := h5.slice
         have F5 := Lib.hid (And.intro (F4.out.1.trans h5.2 (fun _ _ e => e)) (And.intro (F4.out.2.1.trans h5.2 (fun _ _ e => e)) (And.intro (F4.out.2.2.1.trans h5.2 (fun _ _ e => e)) (And.intro h5.2 True.intro))))
         clear h5)
      | (go_at_call 14; have _ := M1; refine (C4.out wd _ _ lS).mono ?_; rintro e we ⟨v4, rfl, h4⟩
         obtain ⟨A4, c4, rfl, _, l4⟩ := h4.slice
         have F4 := Lib.hid (And.intro (F3.out.1.trans h4.2 (fun _ _ e => e)) (And.intro (F3.out.2.1.trans h4.2 (fun _ _ e => e)) (And.intro (F3.out.2.2.trans h4.2 (fun _ _ e => e)) h4.2)))
         have M2 := True.intro
         clear h4)
      | (go_at_call 13; refine (C3.out wc _ _ (HL.out wc F2.out.1)).mono ?_; rintro e wd ⟨vS, rfl, hS⟩
         obtain ⟨AS, cS, rfl, lS, hfS⟩ := hS.form HSn.out
         have F3 := Lib.hid (And.intro (F2.out.1.trans hfS (fun _ _ e => e)) (And.intro (F2.out.2.trans hfS (fun _ _ e => e)) hfS))
         clear hS)
      | (go_at_call 15; refine (C2.out wb _ _ (HL.out wb F1.out)).mono ?_; rintro e wc ⟨v2, rfl, h2⟩
         obtain ⟨A2, c2, rfl, _, l2⟩ := h2.slice
         have F2 := Lib.hid (And.intro (F1.out.trans h2.2 (fun _ _ e => e)) h2.2)
         have M1 := True.intro
         clear h2)
      | (go_at_call 14; refine (C1.out w _ _ (HL.out w (Fr.refl _ w))).mono ?_; rintro e wb ⟨v1, rfl, h1⟩
         obtain ⟨A1, c1, rfl, _, l1⟩ := h1.slice
         have F1 := Lib.hid h1.2
         clear h1))
    go_ret
    exact ⟨rfl, (F5.out.1.then_below bh).below (fun _ _ e => e)⟩
end Go.Proofs.Ytcbgpbcfpeanjaa

/- What is proved: what the walks of this seat need of layers below, merged out of the texts Obi (of each just what is needed). Conditions: each theorem names its own. -/
import Derived.Test.YtnnafiajfapenaaDoorObc
import Derived.Test.YtnnafiajfapenaaDoorObh
/- What is proved: bytes as a kind and a body, by the program. Conditions: the bytes' cells are there. -/
namespace Go.Proofs.YtnnafiajfapenaaDoor
open Go.RowKit Go.Sort Go.Shelf
set_option linter.unusedVariables false
/-- What bytes tell: a kind, a body, and an error's number. -/
def splitG (G : Option (Int × Int × List UInt8)) : Int × List UInt8 × Int := match G with
  | none => (0, [], 12)
  | some (k, n, r) => if (r.length : Int) < n then (0, [], 10) else if n < (r.length : Int) then (0, [], 12) else if chkO k r = 0 then (k, r, 0) else (0, [], chkO k r)
def splitB (b : List UInt8) : Int × List UInt8 × Int := splitG (headT b)
set_option maxHeartbeats 1600000 in
set_option maxRecDepth 100000 in
theorem GbClone_any (ad : Addr) (c : Nat) (l : List UInt8) (hm : l.length ≤ 1000000) (w : World) (h : Lies w (some ad) (bytesV l)) :
    Calls Tryd.prog 11 #[.slice (some ad) l.length c] w fun e w' => ∃ A2 c2, e = .returned (.slice A2 l.length c2) ∧ l.length ≤ c2 ∧ Lies w' A2 (bytesV l) ∧ (∀ ad, A2 = some ad → w.heap.size ≤ ad.block) ∧ Fr (fun _ => False) w w' := by
  obtain ⟨i0, hi, hz0, hz1, hz2⟩ := info_parts info_u8
  have HL := Lib.hid (h.fr ((Fr.refl (fun _ => False) w).alloc (.cells #[] 5)) (fun _ _ e => e))
  have hnil : ∀ (n : Nat) (w : World), (binOp .eql 22 (.slice (some ad) n c) (.slice none 0 0)).run Tryd.prog w = .ok (.bool false) w := fun n w => by
    simp only [binOp]
    simp [Op.equal, Op.maxDepth, run_equalIn_slice_nil w 9999 22 5 (some ad) n c Tryd.underlying22]
  obtain ⟨n, hn⟩ : ∃ n, l.length = n := ⟨_, rfl⟩
  have HNn := Lib.hid hn
  rw [hn] at hm ⊢
  clear hn h
  go_enter Tryd.func11, Tryd.ntmps11
  go_wp2_with (at_builtin
               refine wpList_append_row _ rfl (.tmp 5) (.tmp 6) 22 22 rfl w.heap.size 5 i0 (.int .u8 0) 1 1 Tryd.underlying22 hi hz0 hz1 hz2 rfl (.slice (some ⟨w.heap.size, 0, none⟩) 0 0) 0 [] rfl (own_none1 w) (.slice (some ad) n c) n (bytesV l) rfl (Lies.srcB HL.out HNn.out c) (by unfold maxLen; omega) (by omega) (by simp) ?_
               intro vO wa o1 g1 at1
               have hlt := World.ownsRow.lt o1
               obtain ⟨AO, cO, rfl, hcO, hlO, hfO⟩ := own_copyB HNn.out o1 g1
               have BO := Lib.hid (fun ad (e : AO = some ad) => (hlt ad.block (by rw [e]; rfl)).1)
               have FO := Lib.hid hfO
               have LO := Lib.hid hlO
               clear o1 g1 at1 hfO hlO hlt)
  go_ret
  exact ⟨AO, cO, rfl, hcO, LO.out, BO.out, FO.out⟩
set_option maxHeartbeats 3200000 in
set_option maxRecDepth 100000 in
theorem ObSplit_any (A : Option Addr) (c : Nat) (b : List UInt8) (hcap : b.length ≤ c) (hm : b.length ≤ 100000) (w : World) (h : Lies w A (bytesV b)) :
    Calls Tryd.prog 6 #[.slice A b.length c] w fun e w' => ∃ A2 c2, e = .returned (.tuple #[.int .i64 (splitB b).1, .slice A2 (splitB b).2.1.length c2, .int .i64 (splitB b).2.2]) ∧ (splitB b).2.1.length ≤ c2 ∧ Lies w' A2 (bytesV (splitB b).2.1) ∧ (∀ ad, A2 = some ad → w.heap.size ≤ ad.block) ∧ Fr (fun _ => False) w w' := by
  have HT := Lib.hid (ObtakeHead_any A c b hcap (by omega) w h)
  have hrl : ∀ k n r, headT b = some (k, n, r) → r.length ≤ 100000 := fun k n r e => by
    unfold headT at e
    split at e
    · cases e
    · split at e
      · cases e
      · injection e with e
        injection e with _ e
        injection e with _ e
        rw [← e, List.length_drop]; omega
  have hsp : splitB b = splitG (headT b) := rfl
  obtain ⟨Y, hY⟩ : ∃ Y, splitB b = Y := ⟨_, rfl⟩
  rw [hY] at hsp ⊢
  obtain ⟨n, hn⟩ : ∃ n, b.length = n := ⟨_, rfl⟩
  rw [hn] at HT ⊢
  clear hY hn h hcap hm
  cases hG : headT b with
  | none =>
    rw [hG] at HT hsp
    subst hsp
    have HT2 : Hid (Calls Tryd.prog 10 #[.slice A n c] w fun e w' => e = .returned (.tuple #[.int .i64 0, .int .i64 0, .slice none 0 0, .int .i64 12]) ∧ Fr (fun _ => False) w w') := HT
    clear HT hG hrl
    go_enter Tryd.func6, Tryd.ntmps6
    go_wp2_with (go_at_call 10; refine HT2.out.mono ?_; rintro e w2 ⟨rfl, f2⟩; have F2 := Lib.hid f2; clear f2)
    (try simp only [Exit.inBlock, Exit.then])
    go_ret3
    exact ⟨none, 0, rfl, Nat.le_refl _, .inl rfl, (by intro ad e; cases e), F2.out⟩
  | some x =>
    obtain ⟨k, m, r⟩ := x
    rw [hG] at HT hsp
    have hrl := hrl k m r hG
    have HT2 : Hid (Calls Tryd.prog 10 #[.slice A n c] w fun e w' => (∃ A2 c2, e = .returned (.tuple #[.int .i64 k, .int .i64 m, .slice A2 r.length c2, .int .i64 0]) ∧ r.length ≤ c2 ∧ (∀ w2, Fr (fun _ => False) w w2 → Lies w2 A2 (bytesV r)) ∧ ∃ ad, A2 = some ad) ∧ Fr (fun _ => False) w w') := HT
    have HCK := Lib.hid (fun (w2 : World) (A2 : Option Addr) (c2 : Nat) (hc : r.length ≤ c2) (h : Lies w2 A2 (bytesV r)) => ObCheck_any k A2 c2 r hc w2 h)
    have HCL := Lib.hid (fun (w2 : World) (ad : Addr) (c2 : Nat) (h : Lies w2 (some ad) (bytesV r)) => GbClone_any ad c2 r (by omega) w2 h)
    have HSP : Hid (Y = if (r.length : Int) < m then (0, [], 10) else if m < (r.length : Int) then (0, [], 12) else if chkO k r = 0 then (k, r, 0) else (0, [], chkO k r)) := Lib.hid hsp
    obtain ⟨q, hq⟩ : ∃ q, chkO k r = q := ⟨_, rfl⟩
    rw [hq] at HCK HSP
    obtain ⟨R, hR⟩ : ∃ R, r.length = R := ⟨_, rfl⟩
    have HRn := Lib.hid hR
    rw [hR] at HT2 HCK HCL HSP
    clear HT hG hsp hq hR hrl
    by_cases h1 : (R : Int) < m
    · have HY : Hid (Y = (0, [], 10)) := Lib.hid (by rw [HSP.out, if_pos h1])
      rw [HY.out]
      clear HSP HY
      go_enter Tryd.func6, Tryd.ntmps6
      go_wp2_with (go_at_call 10; refine HT2.out.mono ?_; rintro e w2 ⟨⟨A2, c2, rfl, hc2, hl2, ha2⟩, f2⟩; have F2 := Lib.hid f2; clear f2 hl2 ha2)
      (try simp only [Exit.inBlock, Exit.then])
      go_ret3
      exact ⟨none, 0, rfl, Nat.le_refl _, .inl rfl, (by intro ad e; cases e), F2.out⟩
    · by_cases h2 : m < (R : Int)
      · have HY : Hid (Y = (0, [], 12)) := Lib.hid (by rw [HSP.out, if_neg h1, if_pos h2])
        rw [HY.out]
        clear HSP HY
        go_enter Tryd.func6, Tryd.ntmps6
        go_wp2_with (go_at_call 10; refine HT2.out.mono ?_; rintro e w2 ⟨⟨A2, c2, rfl, hc2, hl2, ha2⟩, f2⟩; have F2 := Lib.hid f2; clear f2 hl2 ha2)
        (try simp only [Exit.inBlock, Exit.then])
        go_ret3
        exact ⟨none, 0, rfl, Nat.le_refl _, .inl rfl, (by intro ad e; cases e), F2.out⟩
      · by_cases hq0 : q = 0
        · subst hq0
          have HY : Hid (Y = (k, r, 0)) := Lib.hid (by rw [HSP.out, if_neg h1, if_neg h2, if_pos rfl])
          rw [HY.out]
          clear HSP HY
          go_enter Tryd.func6, Tryd.ntmps6
          go_wp2_with (first
            | (go_at_call 10; refine HT2.out.mono ?_; rintro e w2 ⟨⟨A2, c2, rfl, hc2, hl2, ad, rfl⟩, f2⟩; have F2 := Lib.hid f2; have L2 := Lib.hid hl2; have C2 := Lib.hid hc2; clear f2 hl2 hc2)
            | (go_at_call 8; refine (HCK.out w2 _ _ C2.out (L2.out w2 F2.out)).mono ?_; rintro e w3 ⟨rfl, f3⟩; have F3 := Lib.hid (F2.out.trans f3 (fun _ _ e => e)); clear f3)
            | (go_at_call 11; refine (HCL.out w3 _ _ (L2.out w3 F3.out)).mono ?_; rintro e w4 ⟨A4, c4, rfl, hc4, hl4, hb4, f4⟩; have B4 := Lib.hid (fun ad e => Nat.le_trans F3.out.size (hb4 ad e)); have F4 := Lib.hid (F3.out.trans f4 (fun _ _ e => e)); have L4 := Lib.hid hl4; have C4 := Lib.hid hc4; clear f4 hl4 hc4 hb4))
          (try simp only [Exit.inBlock, Exit.then])
          go_ret3
          exact ⟨A4, c4, by show _ = Ending.returned (.tuple #[.int .i64 k, .slice A4 r.length c4, .int .i64 0]); rw [HRn.out]; rfl, by show r.length ≤ c4; rw [HRn.out]; exact C4.out, L4.out, B4.out, F4.out⟩
        · have hqz : (q == 0) = false := by simp [hq0]
          have HY : Hid (Y = (0, [], q)) := Lib.hid (by rw [HSP.out, if_neg h1, if_neg h2, if_neg hq0])
          rw [HY.out]
          clear HSP HY
          go_enter Tryd.func6, Tryd.ntmps6
          go_wp2_with (first
            | (go_at_call 10; refine HT2.out.mono ?_; rintro e w2 ⟨⟨A2, c2, rfl, hc2, hl2, ad, rfl⟩, f2⟩; have F2 := Lib.hid f2; have L2 := Lib.hid hl2; have C2 := Lib.hid hc2; clear f2 hl2 hc2)
            | (go_at_call 8; refine (HCK.out w2 _ _ C2.out (L2.out w2 F2.out)).mono ?_; rintro e w3 ⟨rfl, f3⟩; have F3 := Lib.hid (F2.out.trans f3 (fun _ _ e => e)); clear f3))
          (try simp only [Exit.inBlock, Exit.then])
          go_ret3
          exact ⟨none, 0, rfl, Nat.le_refl _, .inl rfl, (by intro ad e; cases e), F3.out⟩
end Go.Proofs.YtnnafiajfapenaaDoor

/- What is proved: the queue of those that may be told at first, by the program. Conditions: the list's and the numbers' cells are there. -/
import Derived.Test.YtpaigmmpihcdaaaJm
namespace Go.Proofs.Ytpaigmmpihcdaaa
open Go.RowKit Go.Shelf
set_option linter.unusedVariables false

theorem Orages_any (B : Option Addr) (n c : Nat) (w : World) : Calls Try.prog 33 #[.slice B n c] w fun e w' => e = .returned (ageF w.heap.size) ∧ w' = w.alloc (.cells #[.slice B n c] 23) := by
  unfold ageF
  go_enter Try.func33, Try.ntmps33
  go_wp2
  go_ret
  exact ⟨rfl, rfl⟩
theorem Qu.zero (t : Nat → Int) (f : Nat → Bool) : Qu t 0 f [] := ⟨List.Pairwise.nil, fun k => by simp⟩
theorem Qu.no {t : Nat → Int} {k : Nat} {f : Nat → Bool} {l : List Nat} (h : Qu t k f l) (hf : f k = false) : Qu t (k + 1) f l := ⟨h.asc, fun j => by
  rw [h.mem]
  constructor
  · rintro ⟨a, b⟩; exact ⟨by omega, b⟩
  · rintro ⟨a, b⟩
    have : j ≠ k := fun e => by rw [e, hf] at b; cases b
    exact ⟨by omega, b⟩⟩
theorem Qu.yes {t : Nat → Int} {k : Nat} {f : Nat → Bool} {l l' : List Nat} (h : Qu t k f l) (hf : f k = true) (hi : InsA t l k l') : Qu t (k + 1) f l' :=
  ⟨hi.asc h.asc (fun hm => by have := ((h.mem k).1 hm).1; omega), fun j => by
    rw [hi.mem, h.mem]
    constructor
    · rintro (⟨a, b⟩ | rfl)
      · exact ⟨by omega, b⟩
      · exact ⟨by omega, hf⟩
    · rintro ⟨a, b⟩
      rcases (by omega : j < k ∨ j = k) with c | c
      · exact .inl ⟨c, b⟩
      · exact .inr c⟩
theorem Qu.len {t : Nat → Int} {k : Nat} {f : Nat → Bool} {l : List Nat} (h : Qu t k f l) : l.length ≤ k := nd_len k l (asc_nodup h.asc) (fun x hx => ((h.mem x).1 hx).1)

set_option maxHeartbeats 3200000 in
set_option maxRecDepth 100000 in
theorem Orqueue_any (gl gh ga N : Nat) (A : Option Addr) (c : Nat) (has : Nat → Bool) (ah : Nat → Nat) (B : Option Addr) (nb cB : Nat) (by' : List Int) (hb : by'.length = nb) (hnb : N ≤ nb) (hN : N ≤ 128) (w : World) (hL : Whole w gl 60 #[.slice A N c, .slice (some ⟨gh, 0, none⟩) N N, .slice (some ⟨ga, 0, none⟩) N N]) (hH : Whole w gh 4 (rowC (boolC has) N)) (hA : Whole w ga 3 (rowC (intC ah) N)) (hby : ∀ wr, Fr (fun k => k = ga) w wr → Lies wr B (zC by')) :
    Calls Try.prog 28 #[.pointer (some ⟨gl, 0, none⟩), .slice B nb cB] w fun e w' => ∃ gq gb vq l, e = .returned (.pointer (some ⟨gq, 0, none⟩)) ∧ Qu (fun n => by'.getD n 0) N (rdyF has ah) l ∧ TlR w w' ga gq gb N ah (.slice B nb cB) vq l (.slice none 0 0) [] := by
  have HRd := Lib.hid (fun x (hx : x < N) w1 (f : Fr (fun k => k = ga) w w1) (h1 : Whole w1 ga 3 (rowC (intC ah) N)) => Orready_any gl gh ga N (.slice A N c) has ah x hx (by omega) w1 (hL.fr f (fun e => hL.apart hA (by decide) e)) (hH.fr f (fun e => hH.apart hA (by decide) e)) h1)
  have HPt := Lib.hid (fun gq gb vq l x (hl : l.length ≤ 1000) (hln : ∀ y ∈ l, y < nb) (hx : x < nb) hr w1 (h1 : TlR w w1 ga gq gb N ah (.slice B nb cB) vq l (.slice none 0 0) []) => Orqput_any w ga gq gb N ah B nb cB by' vq (.slice none 0 0) l [] x hb hl hln hx hr w1 h1 (hby w1 h1.fr))
  have HAg := Lib.hid (Orages_any B nb cB w)
  have c0 : w.cell? ⟨gl, 0, none⟩ = some (.slice A N c) := by rw [hL.cell]; rfl
  obtain ⟨t, ht⟩ : ∃ t : Nat → Int, (fun n => by'.getD n 0) = t := ⟨_, rfl⟩
  rw [ht] at HPt ⊢
  have HLa := Lib.hid hA.lt
  have HA := Lib.hid hA
  have HL := Lib.hid (show Fr (fun _ => False) w w → True from fun _ => trivial)
  have HLb := Lib.hid hL
  have HHb := Lib.hid hH
  clear hL hH hA hby ht hb HL
  obtain ⟨f, hf⟩ : ∃ f, rdyF has ah = f := ⟨_, rfl⟩
  have HRf : Hid (∀ x, rdyF has ah x = f x) := Lib.hid (fun x => by rw [hf])
  rw [hf]
  clear hf
  obtain ⟨wa, hwa⟩ : ∃ wa, w.alloc (.cells #[.slice B nb cB] 23) = wa := ⟨_, rfl⟩
  obtain ⟨w3, hw3⟩ : ∃ w3, wa.alloc (.cells #[.slice none 0 0, ageF w.heap.size] 54) = w3 := ⟨_, rfl⟩
  have HT0 := Lib.hid (show TlR w w3 ga wa.heap.size w.heap.size N ah (.slice B nb cB) (.slice none 0 0) [] (.slice none 0 0) [] from by
    have fa : Fr (fun _ => False) w wa := by subst hwa; exact (Fr.refl _ w).alloc _
    have f3 : Fr (fun _ => False) wa w3 := by subst hw3; exact (Fr.refl _ wa).alloc _
    refine ⟨(fa.trans f3 (fun _ _ e => e)).mono (fun _ _ e => e.elim), (HA.out.fr fa (fun e => e)).fr f3 (fun e => e), by subst hw3; exact Whole.new wa 54 _, (show Whole wa w.heap.size 23 #[.slice B nb cB] from by subst hwa; exact Whole.new w 23 _).fr f3 (fun e => e), World.ownsRow_nil _ _ _ _, World.ownsRow_nil _ _ _ _, (fun k hk => by cases hk), fa.size, HLa.out⟩)
  have HWa : Hid (w.alloc (.cells #[.slice B nb cB] 23) = wa) := Lib.hid hwa
  have HW3 : Hid (wa.alloc (.cells #[.slice none 0 0, ageF w.heap.size] 54) = w3) := Lib.hid hw3
  obtain ⟨gq, hgq⟩ : ∃ gq, wa.heap.size = gq := ⟨_, rfl⟩
  have HGq := Lib.hid hgq
  rw [hgq] at HT0
  obtain ⟨gb, hgb⟩ : ∃ gb, w.heap.size = gb := ⟨_, rfl⟩
  have HGb := Lib.hid hgb
  rw [hgb] at HAg HW3 HT0
  have h128 : N ≤ 1000 := by omega
  have HNb := Lib.hid hnb
  clear hwa hw3 hgq hgb hnb
  have HAg2 : Hid (Calls Try.prog 33 #[.slice B nb cB] w fun e w' => e = .returned (.func (.func 37) #[] #[.pointer (some ⟨gb, 0, none⟩)]) ∧ w' = w.alloc (.cells #[.slice B nb cB] 23)) := HAg
  have HW32 : Hid (wa.alloc (.cells #[.slice none 0 0, .func (.func 37) #[] #[.pointer (some ⟨gb, 0, none⟩)]] 54) = w3) := HW3
  clear HAg HW3
  go_enter Try.func28, Try.ntmps28
  go_upto_region 2 with (go_at_call 33; refine HAg2.out.mono ?_; rintro e w1 ⟨rfl, hw1⟩; rw [HWa.out] at hw1; subst hw1)
  rw [HW32.out, HGq.out]
  have c2 : w3.cell? ⟨gl, 0, none⟩ = some (.slice A N c) := by rw [(HLb.out.fr HT0.out.fr (fun e => HLb.out.apart HA.out (by decide) e)).cell]; rfl
  clear c0
  go_wp2
  go_loopg [16] N (fun kx s16 wr => ∃ (k : Nat) (vq : Value) (l : List Nat), s16 = .int .i64 k ∧ k ≤ N ∧ N - k ≤ kx ∧ Hid (Qu t k f l) ∧ Hid (TlR w wr ga gq gb N ah (.slice B nb cB) vq l (.slice none 0 0) []))
  case atStart => exact ⟨0, _, _, rfl, by omega, by omega, Lib.hid (Qu.zero _ _), HT0⟩
  case round =>
    obtain ⟨k, vq, l, rfl, hk, hkx, HQ, HT⟩ := hrel
    obtain ⟨wo, rfl⟩ : ∃ wo, wo = wr := ⟨wr, rfl⟩
    have wk := wrap_nat1 k (by omega)
    by_cases hlt : k < N
    · have hltz : (k : Int) < N := by omega
      have HR := Lib.hid (HRd.out k hlt wo HT.out.fr HT.out.ab)
      rw [HRf.out] at HR
      have HPk := Lib.hid (HPt.out gq gb vq l k (by have := HQ.out.len; omega) (fun y hy => by have := ((HQ.out.mem y).1 hy).1; have := HNb.out; omega) (by have := HNb.out; omega) HQ.out.asc wo HT.out)
      have HYes := Lib.hid (fun l' hf hi => HQ.out.yes (f := f) (l' := l') hf hi)
      have HNo := Lib.hid (fun hf => HQ.out.no (f := f) hf)
      obtain ⟨b, hb⟩ : ∃ b, f k = b := ⟨_, rfl⟩
      rw [hb] at HR HYes HNo
      clear hb
      cases b
      · have HQ2 := Lib.hid (HNo.out rfl)
        go_wp2_with (go_at_call 32; refine HR.out.mono ?_; rintro e w5 ⟨rfl, rfl⟩)
        go_roundg (N - (k + 1))
        case measure => omega
        case rel => exact ⟨k + 1, vq, l, by go_num, by omega, Nat.le_refl _, HQ2, HT⟩
      · have HYes2 := Lib.hid (fun l' hi => HYes.out l' rfl hi)
        clear HYes HNo
        go_wp2_with (first
          | (go_at_call 32; refine HR.out.mono ?_; rintro e w5 ⟨rfl, rfl⟩)
          | (go_at_call 34; (refine HPk.out.mono ?_; rintro e w6 ⟨rfl, ⟨vq', l', hi, ht⟩, hf⟩; have HT6 := Lib.hid ht; have HQ6 := Lib.hid (HYes2.out l' hi); clear hi ht hf)))
        go_roundg (N - (k + 1))
        case measure => omega
        case rel => exact ⟨k + 1, vq', l', by go_num, by omega, Nat.le_refl _, HQ6, HT6⟩
    · obtain rfl : k = N := by omega
      go_wp2
      go_ret
      exact ⟨gq, gb, vq, l, rfl, HQ.out, HT.out⟩
end Go.Proofs.Ytpaigmmpihcdaaa

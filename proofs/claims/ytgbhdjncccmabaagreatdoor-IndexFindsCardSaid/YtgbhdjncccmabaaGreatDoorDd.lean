/- What is proved: what the walks of this seat need of layers below, merged out of the texts Raw (of each just what is needed). Conditions: each theorem names its own. -/
import Derived.Test.YtgbhdjncccmabaaGreatDoorDc
/- What is proved: the Reader's Raw. Conditions: a reader that the caller holds, or a nil one. -/
namespace Go.Proofs.YtgbhdjncccmabaaGreatDoor
open Go.RowKit
set_option linter.unusedVariables false
def rawErr (len p : Nat) (er n : Int) : Int := if n < 0 then failErr er 3 else hasErr len p er n
def rawB (bs : List UInt8) (p : Nat) (er n : Int) : List UInt8 := if n < 0 then [] else if hasErr bs.length p er n = 0 then (bs.drop p).take n.toNat else []
def rawAt (len p : Nat) (er n : Int) : Nat := if n < 0 then p else stepAt len p er n.toNat
def RawPost (w : World) (g : Nat) (v : Value) (bs : List UInt8) (p : Nat) (er n : Int) (e : Ending) (w' : World) : Prop :=
  ∃ v', e = .returned v' ∧ w'.ownsRow w.heap.size 5 1 v' (rawB bs p er n).length (bytesV (rawB bs p er n)) ∧ Rd w' g v bs (rawAt bs.length p er n) (rawErr bs.length p er n) ∧ RFr g w w'
theorem own_down {w : World} {base base' : Nat} {e : TypeId} {size n : Nat} {v : Value} {xs : List Value} (h : w.ownsRow base e size v n xs) (hb : base' ≤ base) : w.ownsRow base' e size v n xs := by
  refine ⟨h.1, ?_⟩
  rcases h.2 with h0 | ⟨g, cap, cur, hv, hg, r⟩
  · exact .inl h0
  · exact .inr ⟨g, cap, cur, hv, Nat.le_trans hb hg, r⟩
theorem lies_cut {w : World} {b o : Nat} {xs : List UInt8} (h : Lies w (some ⟨b, o, none⟩) (bytesV xs)) (p n : Nat) : Lies w (some ⟨b, o + p, none⟩) (bytesV ((xs.drop p).take n)) := by
  rcases h with h | ⟨b', o', h, hc⟩
  · have : xs = [] := List.eq_nil_of_length_eq_zero (by rw [← bytesV_length, h]; rfl)
    subst this
    exact .inl (by simp [bytesV])
  · injection h with h
    injection h with h1 h2
    subst h1; subst h2
    refine .inr ⟨b, o + p, rfl, fun j u hu => ?_⟩
    rw [Nat.add_assoc]
    apply hc
    unfold bytesV at hu ⊢
    rw [List.getElem?_map, List.getElem?_take] at hu
    rw [List.getElem?_map]
    split at hu
    · rwa [List.getElem?_drop] at hu
    · simp at hu
theorem cut_lies {w : World} {A : Option Addr} {bs : List UInt8} (h : Lies w A (bytesV bs)) {p c : Nat} (hc : bs.length ≤ c) (N : Nat) : Lies w (if c = p then A else Option.map (fun x => x.add p) A) (bytesV ((bs.drop p).take N)) := by
  by_cases hcp : c = p
  · rw [if_pos hcp, List.drop_of_length_le (by omega)]
    exact .inl (by simp [bytesV])
  · rw [if_neg hcp]
    by_cases hb : bs = []
    · subst hb
      exact .inl (by simp [bytesV])
    · obtain ⟨b, o, rfl⟩ := lies_at h hb
      rw [Option.map_some, add_off]
      exact lies_cut h p N
theorem own_n (A : Option Addr) (c N : Nat) (xs : List UInt8) (w : World) (hN : xs.length = N) (h : Lies w A (bytesV xs)) (hb : xs.length ≤ 140737488355328) :
    Calls Tryz.prog 70 #[.slice A N c] w (OwnPost w xs) := by
  subst hN
  exact own_any A c xs w h hb
set_option maxHeartbeats 1600000 in
theorem RRaw_any (g : Nat) (v : Value) (bs : List UInt8) (p : Nat) (er n : Int) (w : World) (h : Rd w g v bs p er) (hn0 : -9223372036854775808 ≤ n) (hn1 : n ≤ 9223372036854775807) :
    Calls Tryz.prog 46 #[.pointer (some ⟨g, 0, none⟩), .int .i64 n] w (RawPost w g v bs p er n) := by
  have hsm := h.small
  by_cases hneg : n < 0
  · have hB : hasB bs.length p (failErr er 3) n = false := by
      unfold hasB failErr
      split
      · simp
      · simp [*]
    have hE : hasErr bs.length p (failErr er 3) n = failErr er 3 := by
      unfold hasErr failErr
      split
      · rename_i h1; subst h1; rw [if_neg (by decide)]
      · rfl
    have HB := Lib.hid hB
    have HE := Lib.hid hE
    clear hB hE
    go_enter_defers Tryz.func46, Tryz.ntmps46
    go_wp2_with (first
      | (go_at_call 72; refine (RAt_any g v bs p _ _ h).mono ?_; rintro e w1 ⟨rfl, rfl⟩)
      | (go_at_call 73; refine (Rfail_any g v bs p _ _ _ h).mono ?_; rintro e w2 ⟨rfl, h2, f2⟩)
      | (go_at_call 74; refine (Rhas_any g v bs p _ _ _ h2).mono ?_; rintro e w3 ⟨rfl, h3, f3⟩; rw [HB.out]; rw [HE.out] at h3))
    refine leaves_cons (f := 71) (args := #[.pointer (some ⟨g, 0, none⟩), .int .i64 p]) (by simp) (by simp [go_sem]) ?_
    refine (Rlook_any g v bs p p _ .returning _ h3 h.le).mono ?_
    rintro e u' w'' ⟨rfl, rfl, h4, f4⟩
    have e1 : backAt (failErr er 3) p p = rawAt bs.length p er n := by unfold backAt rawAt; rw [if_pos hneg]; split <;> rfl
    have e2 : failErr er 3 = rawErr bs.length p er n := by unfold rawErr; rw [if_pos hneg]
    have e3 : rawB bs p er n = [] := by unfold rawB; rw [if_pos hneg]
    rw [e1, e2] at h4
    refine ⟨_, results_tmp rfl _ _ _, _, rfl, ?_, h4, (f2.trans f3).trans f4⟩
    rw [e3]
    exact World.ownsRow_nil _ _ _ _
  · by_cases hb : hasB bs.length p er n = true
    · obtain ⟨rfl, hp⟩ := hasB_true hb
      obtain ⟨N, rfl⟩ := Int.eq_ofNat_of_zero_le (show 0 ≤ n by omega)
      obtain ⟨A, c, hv, hc, hm, -⟩ := own_lies h.own
      have hE : hasErr bs.length p 0 N = 0 := hasErr_ok hp
      have HE := Lib.hid hE
      have HB := Lib.hid hb
      clear hE hb
      subst hv
      have hpw : IntKind.i64.wrap ((p : Int) + N) = (p : Int) + N := IntWalk.i64_in _ (by omega)
      have hpn : ((p : Int) + N).toNat = p + N := by omega
      have hp0 : (0 : Int) ≤ (p : Int) := by omega
      have hp1 : (0 : Int) ≤ (p : Int) + N := by omega
      have hpc : (p : Int) + N ≤ c := by omega
      have hple : (p : Int) ≤ (p : Int) + N := by omega
      go_enter_defers Tryz.func46, Tryz.ntmps46
      go_wp2_with (first
        | (go_at_call 72; refine (RAt_any g _ bs p _ _ h).mono ?_; rintro e w1 ⟨rfl, rfl⟩)
        | (go_at_call 74; refine (Rhas_any g _ bs p _ _ _ h).mono ?_; rintro e w2 ⟨rfl, h2, f2⟩; rw [HB.out]; rw [HE.out] at h2))
      have c0 := h2.c0
      have c1 := h2.c1
      have hL : Lies w2 (if c = p then A else Option.map (fun x => x.add p) A) (bytesV ((bs.drop p).take N)) := cut_lies (Lies.of_own h2.own) hc N
      have hNl : ((bs.drop p).take N).length = N := by rw [List.length_take, List.length_drop]; omega
      obtain ⟨A', hA'⟩ : ∃ A', (if c = p then A else Option.map (fun x => x.add p) A) = A' := ⟨_, rfl⟩
      rw [hA'] at hL
      have HL := Lib.hid hL
      have HN := Lib.hid hNl
      have hglt := h2.whole.lt
      clear hL hNl hm
      go_region_held3 (fun w' => w'.cell? ⟨g, 0, none⟩ = some (.slice A bs.length c) ∧ w'.cell? ⟨g, 1, none⟩ = some (.int .i64 p)) (go_keep)
        ((go_at_call 70; refine (own_n _ _ N _ _ HN.out (by exact HL.out) (by rw [HN.out]; omega)).mono ?_; rintro e w3 ⟨v3, rfl, h3, b3⟩; have k0 := (b3.cell (p := ⟨g, 0, none⟩) hglt).trans c0; have k1 := (b3.cell (p := ⟨g, 1, none⟩) hglt).trans c1))
      have b3' : Below w2.heap.size w2 w3 := ⟨b3.os, b3.tape, b3.output, b3.size, b3.block⟩
      have hr3 := h2.below b3'
      have f31 := hr3.whole.frozen 1
      have h5 := hr3.setAt (q := p + N) (by omega)
      go_wp2
      go_outline
      refine leaves_cons (f := 71) (args := #[.pointer (some ⟨g, 0, none⟩), .int .i64 p]) (by simp) (by simp [go_sem]) ?_
      refine (Rlook_any g _ bs _ p 0 .returning _ h5 h.le).mono ?_
      rintro e u' w'' ⟨rfl, rfl, h4, f4⟩
      have e1 : backAt 0 (p + N) p = rawAt bs.length p 0 N := by
        unfold backAt rawAt stepAt
        rw [if_pos rfl, if_neg (by omega), Int.toNat_natCast, if_pos ⟨rfl, by omega⟩]
      have e2 : rawErr bs.length p 0 N = 0 := by unfold rawErr; rw [if_neg (by omega)]; exact HE.out
      have e3 : rawB bs p 0 N = (bs.drop p).take N := by unfold rawB; rw [if_neg (by omega), if_pos HE.out, Int.toNat_natCast]
      rw [e1] at h4
      have hgne : ∀ k, v3.ownBlock = some k → ¬ k = g := fun k hk e => by
        have h6 := (World.ownsRow.lt h3 k hk).1
        have h7 : w2.heap.size ≤ k := h6
        omega
      have f5 : RFr g w3 w'' := ((RFr.refl g w3).set 1 _).trans f4
      refine ⟨_, results_tmp rfl _ _ _, v3, rfl, ?_, by rw [e2]; exact h4, (Fr.then_below f2 b3').trans f5 (fun _ _ e => e)⟩
      rw [e3]
      exact own_down (own_fr h3 f5 hgne) f2.size
    · have hf := hasB_false hb
      have HB := Lib.hid (by simpa using hb : hasB bs.length p er n = false)
      have HF := Lib.hid hf
      clear hf hb
      go_enter_defers Tryz.func46, Tryz.ntmps46
      go_wp2_with (first
        | (go_at_call 72; refine (RAt_any g v bs p _ _ h).mono ?_; rintro e w1 ⟨rfl, rfl⟩)
        | (go_at_call 74; refine (Rhas_any g v bs p _ _ _ h).mono ?_; rintro e w3 ⟨rfl, h3, f3⟩; rw [HB.out]))
      refine leaves_cons (f := 71) (args := #[.pointer (some ⟨g, 0, none⟩), .int .i64 p]) (by simp) (by simp [go_sem]) ?_
      refine (Rlook_any g v bs p p _ .returning _ h3 h.le).mono ?_
      rintro e u' w'' ⟨rfl, rfl, h4, f4⟩
      have hz : hasErr bs.length p er n ≠ 0 := fun e => by
        have := hasErr_zero e
        rcases HF.out with h1 | h1 <;> omega
      have e1 : backAt (hasErr bs.length p er n) p p = rawAt bs.length p er n := by
        unfold backAt rawAt stepAt
        rw [if_neg hz, if_neg (by omega), if_neg]
        rintro ⟨h1, h2⟩
        rcases HF.out with h3 | h3 <;> omega
      have e2 : hasErr bs.length p er n = rawErr bs.length p er n := by unfold rawErr; rw [if_neg (by omega)]
      have e3 : rawB bs p er n = [] := by unfold rawB; rw [if_neg (by omega), if_neg hz]
      rw [e1, e2] at h4
      refine ⟨_, results_tmp rfl _ _ _, _, rfl, ?_, h4, f3.trans f4⟩
      rw [e3]
      exact World.ownsRow_nil _ _ _ _
end Go.Proofs.YtgbhdjncccmabaaGreatDoor

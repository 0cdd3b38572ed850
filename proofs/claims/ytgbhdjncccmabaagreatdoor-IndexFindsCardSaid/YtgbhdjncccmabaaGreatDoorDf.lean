/- What is proved: what the walks of this seat need of layers below, merged out of the texts Qre Qrf (of each just what is needed). Conditions: each theorem names its own. -/
import Derived.Deep.RegionLaw
import Derived.Test.YtgbhdjncccmabaaGreatDoorDe
import Derived.Test.YtgbhdjncccmabaaGreatDoorDd
set_option maxRecDepth 100000
/- What is proved: what the document's own reader (the law's side) tells and does: End, number, Var, Text, Raw, Big. Conditions: a reader that the caller holds, over a slice of bytes of at most 2^47. -/
namespace Go.Proofs.YtgbhdjncccmabaaGreatDoor
open Go.RowKit
set_option linter.unusedVariables false
/-- The document's reader at block h over the bytes bs at A, at place p, with error er. -/
structure Qd (w : World) (h : Nat) (A : Option Addr) (cap : Nat) (bs : List UInt8) (p : Nat) (er : Int) : Prop where
  whole : Whole w h 81 #[.slice A bs.length cap, .int .i64 p, .int .i64 er]
  lies : Lies w A (bytesV bs)
  le : p ≤ bs.length
  small : bs.length ≤ 140737488355328
  room : bs.length ≤ cap
  ne : ∀ ad, A = some ad → bs ≠ [] → ad.block ≠ h
def QPost (w : World) (h : Nat) (A : Option Addr) (cap : Nat) (bs : List UInt8) (x : Value) (p : Nat) (er : Int) (e : Ending) (w' : World) : Prop := e = .returned x ∧ Qd w' h A cap bs p er ∧ RFr h w w'
section
variable {w w' : World} {h : Nat} {A : Option Addr} {cap : Nat} {bs : List UInt8} {p q : Nat} {er : Int}
theorem Qd.c0 (k : Qd w h A cap bs p er) : w.cell? ⟨h, 0, none⟩ = some (.slice A bs.length cap) := by simpa using k.whole.cell 0
theorem Qd.c1 (k : Qd w h A cap bs p er) : w.cell? ⟨h, 1, none⟩ = some (.int .i64 p) := by simpa using k.whole.cell 1
theorem Qd.c2 (k : Qd w h A cap bs p er) : w.cell? ⟨h, 2, none⟩ = some (.int .i64 er) := by simpa using k.whole.cell 2
theorem Qd.drewN (k : Qd w h A cap bs p er) (n : Nat) : Qd (w.drewN n) h A cap bs p er := ⟨k.whole, k.lies, k.le, k.small, k.room, k.ne⟩
theorem lies_fr {S : Nat → Prop} (hl : Lies w A (bytesV bs)) (f : Fr S w w') (hn : ∀ ad, A = some ad → bs ≠ [] → ¬ S ad.block) : Lies w' A (bytesV bs) := by
  by_cases hb : bs = []
  · exact .inl (by rw [hb]; rfl)
  · exact hl.fr f (fun ad e => hn ad e hb)
theorem Qd.fr {S : Nat → Prop} (k : Qd w h A cap bs p er) (f : Fr S w w') (h1 : ¬ S h) (h2 : ∀ ad, A = some ad → bs ≠ [] → ¬ S ad.block) : Qd w' h A cap bs p er :=
  ⟨k.whole.fr f h1, lies_fr k.lies f h2, k.le, k.small, k.room, k.ne⟩
theorem Qd.below (k : Qd w h A cap bs p er) (f : Below w.heap.size w w') : Qd w' h A cap bs p er := k.fr (Fr.of_below (S := fun _ => False) f) (fun e => e) (fun _ _ _ e => e)
theorem Qd.setAt (k : Qd w h A cap bs p er) (hq : q ≤ bs.length) : Qd (w.setCell ⟨h, 1, none⟩ (.int .i64 q)) h A cap bs q er :=
  ⟨by simpa using k.whole.set 1 (.int .i64 q), lies_fr k.lies ((Fr.refl (fun j => j = h) w).setCell (p := ⟨h, 1, none⟩) (fun _ => rfl) _) (fun ad e hb e2 => k.ne ad e hb e2), hq, k.small, k.room, k.ne⟩
theorem Qd.setErr (k : Qd w h A cap bs p er) (f : Int) : Qd (w.setCell ⟨h, 2, none⟩ (.int .i64 f)) h A cap bs p f :=
  ⟨by simpa using k.whole.set 2 (.int .i64 f), lies_fr k.lies ((Fr.refl (fun j => j = h) w).setCell (p := ⟨h, 2, none⟩) (fun _ => rfl) _) (fun ad e hb e2 => k.ne ad e hb e2), k.le, k.small, k.room, k.ne⟩
end
end Go.Proofs.YtgbhdjncccmabaaGreatDoor
/- What is proved: the document's own reader (the law's side): Var, Text, Raw and Big. Conditions: a reader that the caller holds, over a slice of bytes of at most 2^47. -/
namespace Go.Proofs.YtgbhdjncccmabaaGreatDoor
open Go.RowKit
set_option linter.unusedVariables false
section
variable {P : Program} (w : World)
theorem step_append_row {ops : Array Oper} {o : Oper} {a : Act} {K : Act → World → Prop} {Q : Exit → Act → World → Prop} {E : Prop} (hgd : o.guard = none) (s x : Operand) (t tx : TypeId)
    (ho : o.op = .call { callee := .builtin .append, args := #[s, x], argTypes := #[t, tx] })
    (base : Nat) (e : TypeId) (i : TypeInfo) (z : Value) (size bytes : Nat) (ht : P.underlying t = some (.slice e)) (hi : P.info? e = some i) (hz : i.zero = some z)
    (hsize : i.size = size) (hby : i.bytes = bytes) (hzs : z.cells.size = size)
    (v : Value) (n : Nat) (xs : List Value) (hs : a.eval s = v) (hown : w.ownsRow base e size v n xs)
    (y : Value) (m : Nat) (news : List Value) (hx : a.eval x = y) (hsrc : Src P size tx y m news w)
    (h63 : n + m ≤ maxLen) (hbytes : (n + m) * bytes ≤ 140737488355328) (hbase : base ≤ w.heap.size)
    (h : ∀ v' w', w'.ownsRow base e size v' (n + m) (xs ++ news) → w.grownBy w' v.ownBlock → (v'.ownBlock = v.ownBlock ∨ v'.ownBlock = some w.heap.size) → K (a.put o.dst v') w') :
    if Region.wanted o (yielded ops a.tmps) = true then Oper.wp P o a w K Q else E := by
  have hw : Region.wanted o (yielded ops a.tmps) = true := by simp [Region.wanted, hgd]
  rw [if_pos hw]
  obtain ⟨v', w', hrun, h2, h3, h4⟩ := run_append_row (P := P) w base t tx o.type e i z size bytes ht hi hz hsize hby hzs v n xs hown y m news hsrc h63 hbytes hbase
  unfold Oper.wp execOp
  simp only [ho, resolve, invoke, builtin, Sem.run_bind, Sem.run_pure, Result.andThen_ok, List.map_toArray, List.map_cons, List.map_nil, hs, hx, hrun]
  exact h v' w' h2 h3 h4
end
def QRawPost (w : World) (h : Nat) (A : Option Addr) (cap : Nat) (bs : List UInt8) (p : Nat) (er n : Int) (e : Ending) (w' : World) : Prop :=
  ∃ v', e = .returned v' ∧ w'.ownsRow w.heap.size 5 1 v' (rawB bs p er n).length (bytesV (rawB bs p er n)) ∧ Qd w' h A cap bs (rawAt bs.length p er n) (rawErr bs.length p er n) ∧ RFr h w w'
set_option maxHeartbeats 1600000 in
theorem qRaw_any (h : Nat) (A : Option Addr) (cap : Nat) (bs : List UInt8) (p : Nat) (er n : Int) (w : World) (k : Qd w h A cap bs p er) (hn0 : -9223372036854775808 ≤ n) (hn1 : n ≤ 9223372036854775807) :
    Calls Tryz.prog 51 #[.pointer (some ⟨h, 0, none⟩), .int .i64 n] w (QRawPost w h A cap bs p er n) := by
  have c0 := k.c0
  have c1 := k.c1
  have c2 := k.c2
  have f1 := k.whole.frozen 1
  have f2 := k.whole.frozen 2
  have hsm := k.small
  have hle := k.le
  have hroom := k.room
  have HK := Lib.hid k
  by_cases he : er = 0
  · subst he
    by_cases hneg : n < 0
    · have e1 : rawB bs p 0 n = [] := by unfold rawB; rw [if_pos hneg]
      have e2 : rawAt bs.length p 0 n = p := by unfold rawAt; rw [if_pos hneg]
      have e3 : rawErr bs.length p 0 n = 3 := by unfold rawErr; rw [if_pos hneg]; rfl
      unfold QRawPost
      rw [e1, e2, e3]
      clear k e1 e2 e3
      go_enter Tryz.func51, Tryz.ntmps51
      go_wp2_with fail
      go_ret
      exact ⟨_, rfl, World.ownsRow_nil _ _ _ _, HK.out.setErr 3, (RFr.refl h w).set 2 _⟩
    · by_cases hbig : (bs.length : Int) - p < n
      · have hE : hasErr bs.length p 0 n = 10 := hasErr_end (by omega)
        have e1 : rawB bs p 0 n = [] := by unfold rawB; rw [if_neg hneg, if_neg (by rw [hE]; decide)]
        have e2 : rawAt bs.length p 0 n = p := by unfold rawAt stepAt; rw [if_neg hneg, if_neg (by omega)]
        have e3 : rawErr bs.length p 0 n = 10 := by unfold rawErr; rw [if_neg hneg, hE]
        unfold QRawPost
        rw [e1, e2, e3]
        clear k e1 e2 e3 hE
        go_enter Tryz.func51, Tryz.ntmps51
        go_wp2_with fail
        go_quiet (fail)
        go_wp2_with fail
        go_ret
        exact ⟨_, rfl, World.ownsRow_nil _ _ _ _, (HK.out.drewN _).setErr 10, ((RFr.refl h w).drewN _).set 2 _⟩
      · obtain ⟨N, rfl⟩ := Int.eq_ofNat_of_zero_le (show 0 ≤ n by omega)
        have hE : hasErr bs.length p 0 N = 0 := hasErr_ok (by omega)
        have e1 : rawB bs p 0 N = (bs.drop p).take N := by unfold rawB; rw [if_neg (by omega), if_pos hE, Int.toNat_natCast]
        have e2 : rawAt bs.length p 0 N = p + N := by unfold rawAt stepAt; rw [if_neg (by omega), Int.toNat_natCast, if_pos ⟨rfl, by omega⟩]
        have e3 : rawErr bs.length p 0 N = 0 := by unfold rawErr; rw [if_neg (by omega), hE]
        unfold QRawPost
        rw [e1, e2, e3]
        have hNl : ((bs.drop p).take N).length = N := by rw [List.length_take, List.length_drop]; omega
        rw [hNl]
        have hL : Lies w (if cap = p then A else Option.map (fun x => x.add p) A) (bytesV ((bs.drop p).take N)) := cut_lies k.lies hroom N
        obtain ⟨A', hA'⟩ : ∃ A', (if cap = p then A else Option.map (fun x => x.add p) A) = A' := ⟨_, rfl⟩
        rw [hA'] at hL
        have HL := Lib.hid hL
        have hsr : ∀ c' (W : World), Lies W A' (bytesV ((bs.drop p).take N)) → Src Tryz.prog 1 28 (.slice A' N c') N (bytesV ((bs.drop p).take N)) W := fun c' W hl => by
          have := hl.src Tryz.underlying28 (bytesV_one _) c'
          rwa [bytesV_length, hNl] at this
        have HSR := Lib.hid hsr
        have hpw : IntKind.i64.wrap ((p : Int) + N) = (p : Int) + N := IntWalk.i64_in _ (by omega)
        have hpn : ((p : Int) + N).toNat = p + N := by omega
        have hp0 : (0 : Int) ≤ (p : Int) := by omega
        have hp1 : (0 : Int) ≤ (p : Int) + N := by omega
        have hpc : (p : Int) + N ≤ cap := by omega
        have hpl : (p : Int) ≤ (p : Int) + N := by omega
        obtain ⟨i0, hi, hz0, hz1, hz2⟩ := info_parts info_u8
        have hhl := k.whole.lt
        clear k e1 e2 e3 hE hL hsr hNl
        go_enter Tryz.func51, Tryz.ntmps51
        go_wp2_with fail
        go_quiet (fail)
        go_wp2_with fail
        go_region_held3 (fun w' => w'.cell? ⟨h, 0, none⟩ = some (.slice A bs.length cap) ∧ w'.cell? ⟨h, 1, none⟩ = some (.int .i64 p)) (go_keep)
          ((refine step_append_row _ (by rfl) (.tmp 31) (.tmp 46) 28 28 (by rfl) w.heap.size 5 i0 (.int .u8 0) 1 1 Tryz.underlying28 hi hz0 hz1 hz2 (by rfl) (.slice none 0 0) 0 [] (by rfl) (World.ownsRow_nil _ _ _ _) _ N (bytesV ((bs.drop p).take N)) (by rfl) (HSR.out _ _ (by exact HL.out)) (by unfold maxLen; omega) (by omega) (by exact Nat.le_refl _) ?_; intro v1 w1 o1 g1 at1; have k0 := (g1.cell_far (⟨h, 0, none⟩ : Addr) hhl (by simp [Value.ownBlock])).trans c0; have k1 := (g1.cell_far (⟨h, 1, none⟩ : Addr) hhl (by simp [Value.ownBlock])).trans c1))
        have B1 : Below w.heap.size w w1 := ⟨g1.os, g1.tape, g1.output, g1.size, fun j hj => g1.block j hj (by simp [Value.ownBlock])⟩
        have hQ1 := HK.out.below B1
        have f11 := hQ1.whole.frozen 1
        have hQ2 := hQ1.setAt (q := p + N) (by omega)
        have HQ2 := Lib.hid hQ2
        rw [Nat.zero_add, List.nil_append] at o1
        have HO1 := Lib.hid o1
        have hh1 : w.heap.size ≤ w1.heap.size := B1.size
        obtain ⟨A1, cc1, hv1, -, -⟩ := own_slice o1
        subst hv1
        clear o1 g1 at1 hQ1 hQ2
        go_wp2_with fail
        go_ret
        exact ⟨_, rfl, own_fr HO1.out ((RFr.refl h w1).set 1 _) (fun j hj e => by have := (World.ownsRow.lt HO1.out j hj).1; omega), HQ2.out, (RFr.set (Fr.of_below B1) 1 _)⟩
  · have e1 : rawB bs p er n = [] := by unfold rawB; split; rfl; rw [if_neg (by rw [hasErr_err he]; exact he)]
    have e2 : rawAt bs.length p er n = p := by unfold rawAt stepAt; split; rfl; rw [if_neg (fun e => he e.1)]
    have e3 : rawErr bs.length p er n = er := by unfold rawErr failErr; simp [he, hasErr_err he]
    unfold QRawPost
    rw [e1, e2, e3]
    have b2 : (er != 0) = true := by simpa using he
    clear k e1 e2 e3
    go_enter Tryz.func51, Tryz.ntmps51
    go_wp2_with fail
    go_ret
    exact ⟨_, rfl, World.ownsRow_nil _ _ _ _, HK.out, RFr.refl _ _⟩
theorem rawB_len (bs : List UInt8) (p : Nat) (er : Int) (size : Nat) : (rawB bs p er size).length ≤ size := by
  unfold rawB
  split
  · simp
  · split
    · rw [List.length_take, Int.toNat_natCast]; omega
    · simp
theorem rawB_num (bs : List UInt8) (p : Nat) (er : Int) (size : Nat) : bigV (rawB bs p er size) = numV bs p er size := by
  unfold rawB numV
  rw [if_neg (by omega)]
  split
  · rw [Int.toNat_natCast]
  · rfl
theorem rawAt_num (len p : Nat) (er : Int) (size : Nat) : rawAt len p er size = stepAt len p er size := by unfold rawAt; rw [if_neg (by omega), Int.toNat_natCast]
theorem rawErr_num (len p : Nat) (er : Int) (size : Nat) : rawErr len p er size = hasErr len p er size := by unfold rawErr; rw [if_neg (by omega)]
set_option maxHeartbeats 1600000 in
theorem qBig_any (h : Nat) (A : Option Addr) (cap : Nat) (bs : List UInt8) (p : Nat) (er : Int) (size : Nat) (w : World) (k : Qd w h A cap bs p er) (hs : size ≤ 8) :
    Calls Tryz.prog 30 #[.pointer (some ⟨h, 0, none⟩), .int .i64 size] w (QPost w h A cap bs (.int .u64 (numV bs p er size)) (stepAt bs.length p er size) (hasErr bs.length p er size)) := by
  have hr := qRaw_any h A cap bs p er size w k (by omega) (by omega)
  have hlen := rawB_len bs p er size
  rw [← rawB_num bs p er size, ← rawAt_num, ← rawErr_num]
  unfold QRawPost at hr
  obtain ⟨R, hR⟩ : ∃ R, rawB bs p er size = R := ⟨_, rfl⟩
  rw [hR] at hr hlen ⊢
  have HR := Lib.hid hr
  clear hr hR
  go_enter Tryz.func30, Tryz.ntmps30
  go_wp2_with (go_at_call 51; refine HR.out.mono ?_; rintro e w1 ⟨v1, rfl, o1, q1, f1⟩; obtain ⟨A1, c1, hv1, -, l1, -⟩ := own_lies o1; subst hv1; have L1 := Lib.hid l1; have Q1 := Lib.hid q1; have F1 := Lib.hid f1; clear o1 l1 q1 f1)
  go_loop [6, 7] (fun n i => ∃ (k : Nat) (m : Int), k ≤ R.length ∧ i = .int .i64 k ∧ n = .int .u64 m ∧ 0 ≤ m ∧ m < 18446744073709551616 ∧ m = bigV (R.take k)) (fun _ i => R.length - (intOf i).toNat)
  case atStart => exact ⟨0, 0, Nat.zero_le _, rfl, rfl, by omega, by omega, rfl⟩
  case round =>
    obtain ⟨k, m, hk, rfl, rfl, hm0, hm1, hm⟩ := hrel
    have HM := Lib.hid hm
    have hb := bigV_lt (R.take k)
    rw [List.length_take] at hb
    by_cases hlt : k < R.length
    · have hm2 : m < 72057594037927936 := by
        have := pow256 (show min k R.length ≤ 7 by omega)
        omega
      obtain ⟨b, o, hA⟩ := lies_at L1.out (by rintro rfl; simp at hlt)
      subst hA
      have hcell := lies_byte L1.out hlt
      obtain ⟨c, hcb, hc0, hc1⟩ : ∃ c : Int, ((R.getD k 0).toNat : Int) = c ∧ 0 ≤ c ∧ c ≤ 255 := ⟨_, rfl, by omega, by have := (R.getD k 0).toNat_lt; omega⟩
      rw [hcb] at hcell
      have hnext : m * 256 + c = ((bigV (R.take (k + 1)) : Nat) : Int) := by
        rw [List.take_succ_eq_append_getElem hlt, bigV_snoc, HM.out, ← hcb, List.getD_eq_getElem?_getD, List.getElem?_eq_getElem hlt]
        simp
      have HN := Lib.hid hnext
      have hk0 : (0 : Int) ≤ (k : Int) := by omega
      have hk1 : (k : Int) < R.length := by omega
      clear hm hb hnext hcb
      go_wp2_with fail
      go_round
      case rel => exact ⟨k + 1, m * 256 + c, by omega, by go_num, rfl, by omega, by omega, HN.out⟩
      case measure => simp [intOf]; omega
    · obtain rfl : k = R.length := by omega
      rw [List.take_length] at HM
      clear hm hb
      go_wp2_with fail
      go_ret
      exact ⟨ret_num HM.out, Q1.out, F1.out⟩
end Go.Proofs.YtgbhdjncccmabaaGreatDoor

/- What is proved: texts that stand one behind the other: Pwb Pwc. Conditions: each theorem names its own. -/
import Derived.Test.YtkaeoflgnnlbeaaGreatDoorQPgc
import Derived.Test.YtkaeoflgnnlbeaaGreatDoorQPrv
import Derived.Deep.Cut
import Derived.Deep.RegionWith
import Derived.Deep.QuietTactic
import Derived.BigQuiet
import Derived.OrdersHeld
/- What is proved: by which other objects one may be told, by the program. Conditions: the packer is the caller's; the objects' cells are there. -/
namespace Go.Proofs.YtkaeoflgnnlbeaaGreatDoor
open Go.RowKit
set_option linter.unusedVariables false

theorem intsV_append (a b : List Int) : intsV (a ++ b) = intsV a ++ intsV b := by simp [intsV]
theorem info_int : (Tryz.prog.info? 3).map (fun i => (i.zero, i.size, i.bytes)) = some (some (.int .i64 0), 1, 8) := by kernel_rfl
def natI (l : List Nat) : List Int := l.map fun n : Nat => (n : Int)
theorem src_int (w : World) (n : Int) : Src Tryz.prog 1 68 (.slice (some ⟨w.heap.size, 0, none⟩) 1 1) 1 [.int .i64 n] (w.alloc (.cells #[.int .i64 n] 3)) :=
  Src.ofSlice _ Tryz.underlying68 ⟨w.heap.size, 0, none⟩ 1 1 [.int .i64 n] rfl (by intro j u hj; match j, hj with | 0, hj => simp at hj; subst hj; simp [Addr.add]) (by intro u hu; simp at hu; subst hu; rfl)
/-- A packer's cells. -/
def pkC (v : Value) (IA : Option Addr) (n c : Nat) (chain : Int) (vp vd : Value) : Array Value := #[v, .slice IA n c, .int .i64 chain, vp, vd]
/-- What a call tells that makes a list of numbers. -/
def IntsPost (w : World) (l : List Int) (e : Ending) (w' : World) : Prop := ∃ v, e = .returned v ∧ w'.ownsRow w.heap.size 3 1 v l.length (intsV l) ∧ Below w.heap.size w w'

set_option maxHeartbeats 12800000 in
set_option maxRecDepth 100000 in
theorem Pcands_any (g : Nat) (v : Value) (IA : Option Addr) (c : Nat) (ps : List PIt) (chain : Int) (vp vd : Value) (ds : List Int) (base k : Nat) (p : PIt) (hp : ps[k]? = some p) (hk : ds.length = k) (hk6 : k ≤ 600) (w : World) (hi : Its w IA c ps)
    (hW : Whole w g 70 (pkC v IA ps.length c chain vp vd)) (hd : w.ownsRow base 3 1 vd k (intsV ds)) :
    Calls Tryz.prog 76 #[.pointer (some ⟨g, 0, none⟩), .int .i64 k] w (IntsPost w (natI (candL ps ds p.k chain k 4))) := by
  have hkl : k < ps.length := (List.getElem?_eq_some_iff.1 hp).1
  obtain ⟨ab, ao, hIA⟩ := hi.addr hkl
  subst hIA
  obtain ⟨R, hR⟩ : ∃ R, candL ps ds p.k chain k 4 = R := ⟨_, rfl⟩
  rw [hR]
  have HR := Lib.hid hR
  have HI := Lib.hid hi
  have HW := Lib.hid hW
  have HD := Lib.hid hd
  obtain ⟨i1, gi, gz0, gz1, gz2⟩ := info_parts info_int
  have hkk := (hi.cells hp).1
  have HKK := Lib.hid hkk
  have HPs := Lib.hid (show k < ps.length from hkl)
  have HKd := Lib.hid hk
  obtain ⟨L, hL⟩ : ∃ L, ps.length = L := ⟨_, rfl⟩
  have HL := Lib.hid hL
  obtain ⟨kk, hkke⟩ : ∃ kk, p.k = kk := ⟨_, rfl⟩
  rw [hkke] at HR HKK
  rw [hL] at HW hkl
  have hw1 : IntKind.i64.wrap ((k : Int) - 1) = (k : Int) - 1 := by rw [IntKind.wrap_i64]; omega
  unfold pkC at HW
  clear hp hR hi hW hd hkk hk hL hkke
  go_enter Tryz.func76, Tryz.ntmps76
  go_wp2_with fail
  clear hw1
  go_loopw [5, 6, 7] (fun s5 s6 s7 wr => ∃ (m sn : Nat) (z : Int) (v5 : Value) (cs : List Nat), s7 = .int .i64 z ∧ z = (m : Int) - 1 ∧ s6 = .int .i64 sn ∧ s5 = v5 ∧ m ≤ k ∧ sn ≤ 4 ∧ cs.length + sn ≤ 4 ∧ Hid (wr.ownsRow w.heap.size 3 1 v5 cs.length (intsV (natI cs))) ∧ Hid (cs ++ candL ps ds kk chain m sn = R) ∧ Hid (Fr (fun _ => False) w wr)) (fun _ _ i _ => (intOf i + 1).toNat)
  case atStart => exact ⟨k, 4, (k : Int) - 1, .slice none 0 0, [], rfl, rfl, rfl, rfl, by omega, by omega, by simp, Lib.hid (World.ownsRow_nil _ _ _ _), HR, Lib.hid (Fr.refl _ _)⟩
  case round =>
    obtain ⟨m, sn, z, v5, cs, rfl, hz, rfl, rfl, hm, hsn, hcs, HO, HX, HF⟩ := hrel
    obtain ⟨A5, c5, hv5, -, -⟩ := own_slice HO.out
    subst hv5
    obtain ⟨LC, hLC⟩ : ∃ LC, cs.length = LC := ⟨_, rfl⟩
    have HLC := Lib.hid hLC
    rw [hLC] at HO hcs ⊢
    clear hLC
    have HZ := Lib.hid hz
    by_cases h0 : m = 0
    · subst h0
      have hz0 : ¬ (0 : Int) ≤ z := by omega
      have hX := HX.out
      unfold candL at hX
      rw [List.append_nil] at hX
      have HE := Lib.hid hX
      clear hX hz
      go_wp2_with fail
      go_ret
      refine ⟨_, rfl, ?_, HF.out.below (fun _ _ e => e)⟩
      rw [← HE.out]
      have := HO.out
      rw [show (natI cs).length = LC by simp [natI, HLC.out]]
      exact this
    · by_cases hs0 : sn = 0
      · subst hs0
        have hz0 : (0 : Int) ≤ z := by omega
        have hX := HX.out
        rw [candL_none, List.append_nil] at hX
        have HE := Lib.hid hX
        clear hX hz
        go_wp2_with fail
        go_ret
        refine ⟨_, rfl, ?_, HF.out.below (fun _ _ e => e)⟩
        rw [← HE.out]
        have := HO.out
        rw [show (natI cs).length = LC by simp [natI, HLC.out]]
        exact this
      · obtain ⟨j, rfl⟩ : ∃ j, m = j + 1 := ⟨m - 1, by omega⟩
        obtain rfl : z = j := by omega
        have hsp : (0 : Int) < sn := by omega
        obtain ⟨pc, hpc⟩ : ∃ pc, ps[j]? = some pc := ⟨_, List.getElem?_eq_getElem (by have := HPs.out; omega)⟩
        have hX := HX.out
        unfold candL at hX
        rw [if_neg hs0, hpc] at hX
        simp only [Option.map_some] at hX
        have hjc := ((HI.out.fr HF.out).cells hpc).1
        have hkc := HF.out.cell HKK.out (fun e => e)
        have HWr := Lib.hid (HW.out.fr HF.out (fun e => e))
        have w1 := by have := HWr.out.cell 1; simpa using this
        have w2 := by have := HWr.out.cell 2; simpa using this
        have w4 := by have := HWr.out.cell 4; simpa using this
        have hwz : IntKind.i64.wrap ((j : Int) - 1) = (j : Int) - 1 := by rw [IntKind.wrap_i64]; omega
        have hjk : j < k := by omega
        obtain ⟨db, hdv, hdc⟩ : ∃ db, (∃ cd, vd = .slice (some ⟨db, 0, none⟩) k cd) ∧ wr.cell? ⟨db, j, none⟩ = some (.int .i64 (ds.getD j 0)) := by
          have ho := own_fr HD.out HF.out (fun _ _ e => e)
          rcases own_shape ho with ⟨_, h1, _⟩ | ⟨db, cap, hv, _, _, _⟩
          · omega
          · refine ⟨db, ⟨cap, hv⟩, ?_⟩
            rw [hv] at ho
            rw [World.ownsRow.cellAt ho j (by omega), intsV, List.getElem?_map, List.getD_eq_getElem?_getD, List.getElem?_eq_getElem (by have := HKd.out; omega)]
            rfl
        obtain ⟨cd, rfl⟩ := hdv
        obtain ⟨dj, hdj⟩ : ∃ dj, ds.getD j 0 = dj := ⟨_, rfl⟩
        simp only [hdj] at hdc hX
        obtain ⟨kj, hkj⟩ : ∃ kj, pc.k = kj := ⟨_, rfl⟩
        simp only [hkj] at hjc hX
        clear hpc hdj hkj hs0 h0 hm hz
        by_cases hke : kj = kk
        · subst hke
          rw [if_neg (by simp)] at hX
          have hkn : (kj != kj) = false := by simp
          have hwsn : IntKind.i64.wrap ((sn : Int) - 1) = ((sn - 1 : Nat) : Int) := by rw [IntKind.wrap_i64]; omega
          by_cases hch : dj < chain
          · have hch' : decide (dj < chain) = true := by simpa using hch
            rw [if_pos hch] at hX
            have HE := Lib.hid (show (cs ++ [j]) ++ candL ps ds kj chain j (sn - 1) = R from by rw [← hX]; simp)
            clear hX hch
            (
              go_upto_region 6 with fail
              go_quiet (fail)
              obtain ⟨w6, hw6⟩ : ∃ w6, wr.drewN nq = w6 := ⟨_, rfl⟩
              rw [hw6]
              have HF6 := Lib.hid (show Fr (fun _ => False) w w6 by rw [← hw6]; exact HF.out.drewN nq)
              have HO6 := Lib.hid (show w6.ownsRow w.heap.size 3 1 (.slice A5 LC c5) LC (intsV (natI cs)) by rw [← hw6]; exact own_fr HO.out ((Fr.refl (fun _ => False) wr).drewN nq) (fun _ _ e => e))
              have u1 : w6.cell? ⟨g, 1, none⟩ = some (.slice (some ⟨ab, ao, none⟩) L c) := by rw [← hw6]; exact w1
              have u2 : w6.cell? ⟨g, 2, none⟩ = some (.int .i64 chain) := by rw [← hw6]; exact w2
              have u4 : w6.cell? ⟨g, 4, none⟩ = some (.slice (some ⟨db, 0, none⟩) k cd) := by rw [← hw6]; exact w4
              have ud : w6.cell? ⟨db, j, none⟩ = some (.int .i64 dj) := by rw [← hw6]; exact hdc
              clear hw6 w1 w2 w4 hjc hkc hdc)
            (
              go_upto_region 8 with fail
              go_quiet (fail)
              obtain ⟨w8, hw8⟩ : ∃ w8, w6.drewN nq = w8 := ⟨_, rfl⟩
              rw [hw8]
              have HF8 := Lib.hid (show Fr (fun _ => False) w w8 by rw [← hw8]; exact HF6.out.drewN nq)
              have HO8 := Lib.hid (show w8.ownsRow w.heap.size 3 1 (.slice A5 LC c5) LC (intsV (natI cs)) by rw [← hw8]; exact own_fr HO6.out ((Fr.refl (fun _ => False) w6).drewN nq) (fun _ _ e => e))
              clear hw8 u1 u2 u4 ud)
            go_wp2_with (at_builtin; refine wpList_append_row _ rfl (.tmp 49) (.tmp 51) 68 68 rfl w.heap.size 3 i1 (.int .i64 0) 1 8 Tryz.underlying68 gi gz0 gz1 gz2 rfl _ LC (intsV (natI cs)) rfl (HO8.out.alloc _) _ 1 [.int .i64 j] rfl (src_int _ _) (by unfold maxLen; omega) (by omega) (by have := HF8.out.size; simp; omega) ?_
                         intro v9 w9 o9 g9 at9
                         have HO9 := Lib.hid (show w9.ownsRow w.heap.size 3 1 v9 (LC + 1) (intsV (natI (cs ++ [j]))) from by
                           rw [show natI (cs ++ [j]) = natI cs ++ [(j : Int)] from by simp [natI], intsV_append]; exact o9)
                         have HF9 := Lib.hid (show Fr (fun _ => False) w w9 from (HF8.out.alloc _).grown g9 (fun j hj h => by have := (World.ownsRow.lt HO8.out j hj).1; omega))
                         obtain ⟨A9, c9, hv9, -, -⟩ := own_slice o9
                         subst hv9
                         clear o9 g9 at9)
            go_roundw
            case rel => exact ⟨j, sn - 1, (j : Int) - 1, .slice A9 (LC + 1) c9, cs ++ [j], rfl, rfl, rfl, rfl, by omega, by omega, by rw [List.length_append, HLC.out]; simp; omega, by rw [List.length_append, HLC.out]; exact HO9, HE, HF9⟩
            case measure => simp [intOf]
          · have hch' : decide (dj < chain) = false := by simpa using hch
            rw [if_neg hch] at hX
            have HE := Lib.hid hX
            clear hX hch
            (
              go_upto_region 6 with fail
              go_quiet (fail)
              obtain ⟨w6, hw6⟩ : ∃ w6, wr.drewN nq = w6 := ⟨_, rfl⟩
              rw [hw6]
              have HF6 := Lib.hid (show Fr (fun _ => False) w w6 by rw [← hw6]; exact HF.out.drewN nq)
              have HO6 := Lib.hid (show w6.ownsRow w.heap.size 3 1 (.slice A5 LC c5) LC (intsV (natI cs)) by rw [← hw6]; exact own_fr HO.out ((Fr.refl (fun _ => False) wr).drewN nq) (fun _ _ e => e))
              have u1 : w6.cell? ⟨g, 1, none⟩ = some (.slice (some ⟨ab, ao, none⟩) L c) := by rw [← hw6]; exact w1
              have u2 : w6.cell? ⟨g, 2, none⟩ = some (.int .i64 chain) := by rw [← hw6]; exact w2
              have u4 : w6.cell? ⟨g, 4, none⟩ = some (.slice (some ⟨db, 0, none⟩) k cd) := by rw [← hw6]; exact w4
              have ud : w6.cell? ⟨db, j, none⟩ = some (.int .i64 dj) := by rw [← hw6]; exact hdc
              clear hw6 w1 w2 w4 hjc hkc hdc)
            (
              go_upto_region 8 with fail
              go_quiet (fail)
              obtain ⟨w8, hw8⟩ : ∃ w8, w6.drewN nq = w8 := ⟨_, rfl⟩
              rw [hw8]
              have HF8 := Lib.hid (show Fr (fun _ => False) w w8 by rw [← hw8]; exact HF6.out.drewN nq)
              have HO8 := Lib.hid (show w8.ownsRow w.heap.size 3 1 (.slice A5 LC c5) LC (intsV (natI cs)) by rw [← hw8]; exact own_fr HO6.out ((Fr.refl (fun _ => False) w6).drewN nq) (fun _ _ e => e))
              clear hw8 u1 u2 u4 ud)
            go_wp2_with fail
            go_roundw
            case rel => exact ⟨j, sn - 1, (j : Int) - 1, .slice A5 LC c5, cs, rfl, rfl, rfl, rfl, by omega, by omega, by rw [HLC.out]; omega, by rw [HLC.out]; exact HO8, HE, HF8⟩
            case measure => simp [intOf]
        · have hkn : (kj != kk) = true := by simpa using hke
          rw [if_pos (by simpa using hke)] at hX
          have HE := Lib.hid hX
          clear hX hke
          (
            go_upto_region 6 with fail
            go_quiet (fail)
            obtain ⟨w6, hw6⟩ : ∃ w6, wr.drewN nq = w6 := ⟨_, rfl⟩
            rw [hw6]
            have HF6 := Lib.hid (show Fr (fun _ => False) w w6 by rw [← hw6]; exact HF.out.drewN nq)
            have HO6 := Lib.hid (show w6.ownsRow w.heap.size 3 1 (.slice A5 LC c5) LC (intsV (natI cs)) by rw [← hw6]; exact own_fr HO.out ((Fr.refl (fun _ => False) wr).drewN nq) (fun _ _ e => e))
            have u1 : w6.cell? ⟨g, 1, none⟩ = some (.slice (some ⟨ab, ao, none⟩) L c) := by rw [← hw6]; exact w1
            have u2 : w6.cell? ⟨g, 2, none⟩ = some (.int .i64 chain) := by rw [← hw6]; exact w2
            have u4 : w6.cell? ⟨g, 4, none⟩ = some (.slice (some ⟨db, 0, none⟩) k cd) := by rw [← hw6]; exact w4
            have ud : w6.cell? ⟨db, j, none⟩ = some (.int .i64 dj) := by rw [← hw6]; exact hdc
            clear hw6 w1 w2 w4 hjc hkc hdc)
          go_wp2_with fail
          go_roundw
          case rel => exact ⟨j, sn, (j : Int) - 1, .slice A5 LC c5, cs, rfl, rfl, rfl, rfl, by omega, by omega, by rw [HLC.out]; omega, by rw [HLC.out]; exact HO6, HE, HF6⟩
          case measure => simp [intOf]
end Go.Proofs.YtkaeoflgnnlbeaaGreatDoor
/- What is proved: an object's load, by the program: its body, or the shortest script; over what making a script tells. Conditions: the packer is the caller's; the objects' cells are there. -/
namespace Go.Proofs.YtkaeoflgnnlbeaaGreatDoor
open Go.RowKit
set_option linter.unusedVariables false

/-- What a call tells that hands back bytes. -/
def ScPost (w : World) (l : List UInt8) (e : Ending) (w' : World) : Prop := ∃ A c, e = .returned (.slice A l.length c) ∧ l.length ≤ c ∧ c ≤ 9223372036854775807 ∧ Lies w' A (bytesV l) ∧ (∀ ad, A = some ad → w.heap.size ≤ ad.block) ∧ Below w.heap.size w w'
/-- What making a script tells, of two bodies. -/
def ScSays (dl : List UInt8 → List UInt8 → List UInt8 × Int) (xs ys : List UInt8) : Prop :=
  ∀ (A B : Option Addr) (c d : Nat) (w : World), xs.length ≤ c → ys.length ≤ d → Lies w A (bytesV xs) → Lies w B (bytesV ys) → Calls Tryz.prog 77 #[.slice A xs.length c, .slice B ys.length d] w (ScPost w (dl xs ys).1)
def obI (o : Option Nat) : Int := match o with | none => 0 | some c => (c : Int)
/-- What load tells. -/
def LdPost (N0 : Nat) (w : World) (R : Option Nat × List UInt8) (e : Ending) (w' : World) : Prop :=
  ∃ A c, e = .returned (.tuple #[.slice A R.2.length c, .int .i64 (obI R.1), .bool R.1.isNone]) ∧ R.2.length ≤ c ∧ c ≤ 9223372036854775807 ∧ Lies w' A (bytesV R.2) ∧ (R.2 = [] ∨ ∀ ad, A = some ad → ad.block < N0 ∨ w.heap.size ≤ ad.block) ∧ Below w.heap.size w w'
set_option maxHeartbeats 12800000 in
set_option maxRecDepth 100000 in
theorem Pload_any (dl : List UInt8 → List UInt8 → List UInt8 × Int) (g : Nat) (v : Value) (IA : Option Addr) (c : Nat) (ps : List PIt) (chain : Int) (vp vd : Value) (ds : List Int) (base k : Nat) (p : PIt) (hp : ps[k]? = some p) (hk : ds.length = k) (hk6 : k ≤ 600) (N0 : Nat) (hN0 : p.b = [] ∨ ∀ ad, p.B = some ad → ad.block < N0)
    (hsc : ∀ j ∈ candL ps ds p.k chain k 4, ∀ q, ps[j]? = some q → ScSays dl q.b p.b) (w : World) (hi : Its w IA c ps)
    (hW : Whole w g 70 (pkC v IA ps.length c chain vp vd)) (hd : w.ownsRow base 3 1 vd k (intsV ds)) :
    Calls Tryz.prog 46 #[.pointer (some ⟨g, 0, none⟩), .int .i64 k] w (LdPost N0 w (bestL dl ps p.b (candL ps ds p.k chain k 4) (none, p.b))) := by
  have hkl : k < ps.length := (List.getElem?_eq_some_iff.1 hp).1
  have HC := Lib.hid (fun w' (f : Fr (fun _ => False) w w') => Pcands_any g v IA c ps chain vp vd ds base k p hp hk hk6 w' (hi.fr f) (hW.fr f (fun e => e)) (own_fr hd f (fun _ _ e => e)))
  obtain ⟨ab, ao, hIA⟩ := hi.addr hkl
  subst hIA
  unfold IntsPost at HC
  have hcl := candL_len ps ds p.k chain k 4
  have hct := candL_lt ps ds p.k chain k 4
  obtain ⟨cs, hcs⟩ : ∃ cs, candL ps ds p.k chain k 4 = cs := ⟨_, rfl⟩
  rw [hcs] at HC hsc hcl hct ⊢
  obtain ⟨R, hR⟩ : ∃ R, bestL dl ps p.b cs (none, p.b) = R := ⟨_, rfl⟩
  rw [hR]
  have HR := Lib.hid hR
  have HI := Lib.hid hi
  have HW := Lib.hid hW
  have HS := Lib.hid hsc
  have HCt := Lib.hid hct
  have hok := hi.ok p (List.mem_of_getElem? hp)
  have HOk := Lib.hid hok
  have hkb := (hi.cells hp).2
  have HKB := Lib.hid hkb
  obtain ⟨bb, hbb⟩ : ∃ bb, p.b = bb := ⟨_, rfl⟩
  have hol := hok.le
  have hoc := hok.cap
  have HOl := Lib.hid hok.lies
  rw [hbb] at HR HS hol hkb HKB HOl hN0
  obtain ⟨B, hB⟩ : ∃ B, p.B = B := ⟨_, rfl⟩
  obtain ⟨pc, hpc⟩ : ∃ pc, p.c = pc := ⟨_, rfl⟩
  rw [hB, hpc] at hkb HKB
  rw [hB] at HOl hN0
  have HN0 := Lib.hid (show bb = [] ∨ ∀ ad, B = some ad → ad.block < N0 ∨ w.heap.size ≤ ad.block from hN0.imp id (fun h ad e => .inl (h ad e)))
  rw [hpc] at hol hoc
  obtain ⟨LB, hLB⟩ : ∃ LB, bb.length = LB := ⟨_, rfl⟩
  have HLB := Lib.hid hLB
  rw [hLB] at hkb HKB hol
  obtain ⟨NC, hNC⟩ : ∃ NC, cs.length = NC := ⟨_, rfl⟩
  rw [show (natI cs).length = NC by simp [natI, hNC]] at HC
  have HNC := Lib.hid hNC
  rw [hNC] at hcl
  obtain ⟨L, hL⟩ : ∃ L, ps.length = L := ⟨_, rfl⟩
  have HL := Lib.hid hL
  rw [hL] at HW hkl
  unfold pkC at HW
  have HPs := Lib.hid (show ∀ j, j < L → ∃ q, ps[j]? = some q from fun j hj => ⟨_, List.getElem?_eq_getElem (by omega)⟩)
  have w1 := by have := HW.out.cell 1; simpa using this
  clear hN0 hp hk hsc hR hi hW hd hct hok hbb hB hpc hLB hNC hL hcs
  go_enter Tryz.func46, Tryz.ntmps46
  go_upto_region 3 with (go_at_call 76; refine (HC.out w (Fr.refl _ w)).mono ?_; rintro e w2 ⟨v2, rfl, o2, b2⟩; have HO2 := Lib.hid o2; have HF2 := Lib.hid (Fr.of_below (S := fun _ => False) b2); obtain ⟨A2, c2, hv2, -, -⟩ := own_slice o2; subst hv2; clear o2 b2)
  have HL2 := Lib.hid (show Lies w2 A2 (intsV (natI cs)) from Lies.of_own HO2.out)
  clear w1 hkb
  go_loopw [4, 5, 6, 22] (fun s4 s5 s6 s22 wr => ∃ (i : Nat) (o : Option Nat) (ld : List UInt8) (A4 : Option Addr) (LD c4 : Nat) (bi : Int) (wh : Bool), s22 = .int .i64 i ∧ s4 = .slice A4 LD c4 ∧ s5 = .int .i64 bi ∧ s6 = .bool wh ∧ i ≤ NC ∧ LD ≤ LB ∧ Hid (bi = obI o ∧ wh = o.isNone) ∧ Hid (ld.length = LD) ∧ Hid (LD ≤ c4 ∧ c4 ≤ 9223372036854775807) ∧ Hid (Lies wr A4 (bytesV ld)) ∧ Hid (ld = [] ∨ ∀ ad, A4 = some ad → ad.block < N0 ∨ w.heap.size ≤ ad.block) ∧ Hid (bestL dl ps bb (cs.drop i) (o, ld) = R) ∧ Hid (Fr (fun _ => False) w2 wr) ∧ Hid (Fr (fun _ => False) w wr)) (fun _ _ _ i _ => NC - (intOf i).toNat)
  case atStart => exact ⟨0, none, bb, B, LB, pc, 0, true, rfl, rfl, rfl, rfl, by omega, by omega, Lib.hid ⟨rfl, rfl⟩, HLB, Lib.hid ⟨hol, hoc⟩, Lib.hid (HOl.out.fr HF2.out (fun _ _ e => e)), HN0, HR, Lib.hid (Fr.refl _ _), HF2⟩
  case round =>
    obtain ⟨i, o, ld, A4, LD, c4, bi, wh, rfl, rfl, rfl, rfl, hi, hld, HBi, HLD, HC4, HLi, HNe, HX, HFw, HF⟩ := hrel
    by_cases hlt : i < NC
    · have hi2 : (i : Int) < NC := by omega
      obtain ⟨j, hj⟩ : ∃ j, cs[i]? = some j := ⟨_, List.getElem?_eq_getElem (by have := HNC.out; omega)⟩
      have hjm := List.mem_of_getElem? hj
      obtain ⟨hjk, -, -⟩ := HCt.out j hjm
      obtain ⟨q, hq⟩ := HPs.out j (by omega)
      obtain ⟨b2, o2, hA2, hcj⟩ := ints_cell (HL2.out.fr (show Fr (fun _ => False) w2 w2 from Fr.refl _ _) (fun _ _ e => e)) (j := i) (by simp [natI]; have := HNC.out; omega)
      subst hA2
      have hgj : (natI cs).getD i 0 = (j : Int) := by simp [natI, List.getD_eq_getElem?_getD, hj]
      rw [hgj] at hcj
      have hcj := HFw.out.cell hcj (fun e => e)
      have hdr : cs.drop i = j :: cs.drop (i + 1) := by
        rw [List.drop_eq_getElem_cons (by have := HNC.out; omega)]
        congr 1
        exact (List.getElem?_eq_some_iff.1 hj).2
      have hX := HX.out
      rw [hdr] at hX
      unfold bestL at hX
      rw [hq] at hX
      simp only [Option.map_some, Option.getD_some] at hX
      have HSq0 := Lib.hid (HS.out j hjm q hq)
      have hqo := HI.out.ok q (List.mem_of_getElem? hq)
      have hjc := (HI.out.cells hq).2
      have HQo := Lib.hid (And.intro hqo.le (hqo.lies.fr HF.out (fun _ _ e => e)))
      obtain ⟨kq, qb, B1, c1⟩ := q
      simp only at HSq0 HQo hjc hX
      obtain ⟨dd, hdd⟩ : ∃ dd, (dl qb bb).1 = dd := ⟨_, rfl⟩
      have hX2 := hX
      simp only [hdd] at hX2
      obtain ⟨JL, hJL⟩ : ∃ JL, qb.length = JL := ⟨_, rfl⟩
      obtain ⟨DL, hDL⟩ : ∃ DL, dd.length = DL := ⟨_, rfl⟩
      have HDL := Lib.hid hDL
      have HScr := Lib.hid (fun w' (f : Fr (fun _ => False) wr w') => by
        have := HSq0.out B1 B c1 pc w' HQo.out.1 (by rw [HLB.out]; exact hol) (HQo.out.2.fr f (fun _ _ e => e)) ((HOl.out.fr HF.out (fun _ _ e => e)).fr f (fun _ _ e => e))
        rw [hdd, hJL, HLB.out] at this
        exact this)
      unfold ScPost at HScr
      rw [hDL] at HScr
      rw [hJL] at hjc
      rw [hDL, HLD.out] at hX2
      have HQ1 := Lib.hid (fun w' (f : Fr (fun _ => False) wr w') => (by have := (HW.out.fr (HF.out.trans f (fun _ _ e => e)) (fun e => e)).cell 1; simpa using this : w'.cell? ⟨g, 1, none⟩ = some (.slice (some ⟨ab, ao, none⟩) L c)))
      have HQ2 := Lib.hid (fun w' (f : Fr (fun _ => False) wr w') => (HF.out.trans f (fun _ _ e => e)).cell hjc (fun e => e))
      have HQ3 := Lib.hid (fun w' (f : Fr (fun _ => False) wr w') => (HF.out.trans f (fun _ _ e => e)).cell HKB.out (fun e => e))
      have hjL : (j : Int) < L := by omega
      have hkL : (k : Int) < L := by omega
      have hwi : IntKind.i64.wrap ((i : Int) + 1) = ((i + 1 : Nat) : Int) := by rw [IntKind.wrap_i64]; omega
      clear hj hjm hq hgj hdr hqo hjc hdd hJL hDL hX
      go_upto_region 5 with fail
      clear hcj
      refine wp_region_held (S := fun w' => Fr (fun _ => False) wr w') (by kernel_rfl) ?_
      have HSq := Lib.hid (show Fr (fun _ => False) wr (World.drew wr) from (Fr.refl _ wr).drew)
      (
        refine wpAnyH_takeP (i := 0) (v := .pointer (some ⟨g, 0, none⟩)) 26 rfl rfl (by kernel_rfl) (by kernel_rfl) (by kernel_rfl) (fun _ _ _ h => h) (.inl ⟨by rfl, ?_⟩) HSq.out ?_
        · intro xw xf
          go_simp)
      (
        refine wpAnyH_takeP (i := 1) (v := .pointer (some ⟨g, 0, none⟩)) 27 rfl rfl (by kernel_rfl) (by kernel_rfl) (by kernel_rfl) (fun _ _ _ h => h) (.inl ⟨by rfl, ?_⟩) HSq.out ?_
        · intro xw xf
          go_simp)
      (
        refine wpAnyH_takeP (i := 2) (v := .pointer (some ⟨g, 1, none⟩)) 28 rfl rfl (by kernel_rfl) (by kernel_rfl) (by kernel_rfl) (fun _ _ _ h => h) (.inl ⟨by rfl, ?_⟩) HSq.out ?_
        · intro xw xf
          go_simp)
      (
        refine wpAnyH_takeP (i := 3) (v := .slice (some ⟨ab, ao, none⟩) L c) 29 rfl rfl (by kernel_rfl) (by kernel_rfl) (by kernel_rfl) (fun _ _ _ h => h) (.inl ⟨by rfl, ?_⟩) HSq.out ?_
        · intro xw xf
          have xc := HQ1.out xw xf
          go_simp)
      (
        refine wpAnyH_takeP (i := 4) (v := .int .i64 j) 30 rfl rfl (by kernel_rfl) (by kernel_rfl) (by kernel_rfl) (fun _ _ _ h => h) (.inl ⟨by rfl, ?_⟩) HSq.out ?_
        · intro xw xf
          go_simp)
      (
        refine wpAnyH_takeP (i := 5) (v := .pointer (some ⟨ab, ao + j * 2, none⟩)) 31 rfl rfl (by kernel_rfl) (by kernel_rfl) (by kernel_rfl) (fun _ _ _ h => h) (.inl ⟨by rfl, ?_⟩) HSq.out ?_
        · intro xw xf
          go_simp)
      (
        refine wpAnyH_takeP (i := 6) (v := .pointer (some ⟨ab, ao + j * 2 + 1, none⟩)) 32 rfl rfl (by kernel_rfl) (by kernel_rfl) (by kernel_rfl) (fun _ _ _ h => h) (.inl ⟨by rfl, ?_⟩) HSq.out ?_
        · intro xw xf
          go_simp)
      (
        refine wpAnyH_takeP (i := 7) (v := .slice B1 JL c1) 33 rfl rfl (by kernel_rfl) (by kernel_rfl) (by kernel_rfl) (fun _ _ _ h => h) (.inl ⟨by rfl, ?_⟩) HSq.out ?_
        · intro xw xf
          have xc := HQ2.out xw xf
          go_simp)
      (
        refine wpAnyH_takeP (i := 8) (v := .pointer (some ⟨g, 0, none⟩)) 34 rfl rfl (by kernel_rfl) (by kernel_rfl) (by kernel_rfl) (fun _ _ _ h => h) (.inl ⟨by rfl, ?_⟩) HSq.out ?_
        · intro xw xf
          go_simp)
      (
        refine wpAnyH_takeP (i := 9) (v := .pointer (some ⟨g, 0, none⟩)) 35 rfl rfl (by kernel_rfl) (by kernel_rfl) (by kernel_rfl) (fun _ _ _ h => h) (.inl ⟨by rfl, ?_⟩) HSq.out ?_
        · intro xw xf
          go_simp)
      (
        refine wpAnyH_takeP (i := 10) (v := .pointer (some ⟨g, 1, none⟩)) 36 rfl rfl (by kernel_rfl) (by kernel_rfl) (by kernel_rfl) (fun _ _ _ h => h) (.inl ⟨by rfl, ?_⟩) HSq.out ?_
        · intro xw xf
          go_simp)
      (
        refine wpAnyH_takeP (i := 11) (v := .slice (some ⟨ab, ao, none⟩) L c) 37 rfl rfl (by kernel_rfl) (by kernel_rfl) (by kernel_rfl) (fun _ _ _ h => h) (.inl ⟨by rfl, ?_⟩) HSq.out ?_
        · intro xw xf
          have xc := HQ1.out xw xf
          go_simp)
      (
        refine wpAnyH_takeP (i := 12) (v := .int .i64 k) 38 rfl rfl (by kernel_rfl) (by kernel_rfl) (by kernel_rfl) (fun _ _ _ h => h) (.inl ⟨by rfl, ?_⟩) HSq.out ?_
        · intro xw xf
          go_simp)
      (
        refine wpAnyH_takeP (i := 13) (v := .pointer (some ⟨ab, ao + k * 2, none⟩)) 39 rfl rfl (by kernel_rfl) (by kernel_rfl) (by kernel_rfl) (fun _ _ _ h => h) (.inl ⟨by rfl, ?_⟩) HSq.out ?_
        · intro xw xf
          go_simp)
      (
        refine wpAnyH_takeP (i := 14) (v := .pointer (some ⟨ab, ao + k * 2 + 1, none⟩)) 40 rfl rfl (by kernel_rfl) (by kernel_rfl) (by kernel_rfl) (fun _ _ _ h => h) (.inl ⟨by rfl, ?_⟩) HSq.out ?_
        · intro xw xf
          go_simp)
      (
        refine wpAnyH_takeP (i := 15) (v := .slice B LB pc) 41 rfl rfl (by kernel_rfl) (by kernel_rfl) (by kernel_rfl) (fun _ _ _ h => h) (.inl ⟨by rfl, ?_⟩) HSq.out ?_
        · intro xw xf
          have xc := HQ3.out xw xf
          go_simp)
      change wpAnyH _ _ _ _ _ _ _ _ (World.drew wr)
      have HFd := Lib.hid (show Fr (fun _ => False) wr (World.drew wr) from (Fr.refl _ wr).drew)
      obtain ⟨wd, hwd⟩ : ∃ wd, World.drew wr = wd := ⟨_, rfl⟩
      rw [hwd]
      rw [hwd] at HFd
      clear hwd HSq
      (
        try simp only [List.setIfInBounds_toArray, List.set_cons_succ, List.set_cons_zero]
        refine wpAnyH_all (rs := [16]) (by kernel_rfl) (by simp) ?_
        intro i hi
        simp only [List.mem_cons, List.not_mem_nil, or_false] at hi
        subst hi)
      refine wpOp_step rfl (fun K hK => ?_)
      go_simp
      go_wp2_with (go_at_call 77; refine (HScr.out wd HFd.out).mono ?_; rintro e w5 ⟨A5, c5, rfl, l5, m5, y5, n5, b5⟩; have HN5 := Lib.hid (show dd = [] ∨ ∀ ad, A5 = some ad → ad.block < N0 ∨ w.heap.size ≤ ad.block from .inr (fun ad e => .inr (by have := n5 ad e; have := HFd.out.size; have := HF.out.size; omega))); have HC5 := Lib.hid (And.intro l5 m5); have HL5 := Lib.hid y5; have HF5 := Lib.hid (HFd.out.then_below b5); clear l5 m5 y5 n5 b5)
      refine ⟨HF5.out, ?_⟩
      have HFw5 := Lib.hid (HF.out.trans HF5.out (fun _ _ e => e))
      (
        try simp only [List.setIfInBounds_toArray, List.set_cons_succ, List.set_cons_zero]
        refine wpAnyH_all (rs := [17]) (by kernel_rfl) (by simp) ?_
        intro i hi
        simp only [List.mem_cons, List.not_mem_nil, or_false] at hi
        subst hi)
      refine wpOp_step rfl (fun K hK => ?_)
      go_simp
      refine hK _ _ ⟨HF5.out, ?_⟩
      clear hK K
      refine wpAnyH_done (by kernel_rfl) ?_ _
      by_cases hdl : DL < LD
      · have hdl' : (DL : Int) < LD := by omega
        rw [if_pos hdl] at hX2
        have HXn := Lib.hid hX2
        clear hX2
        go_wp2_with fail
        go_roundw
        case rel => exact ⟨i + 1, some j, dd, A5, DL, c5, (j : Int), false, by go_num, rfl, rfl, rfl, by omega, by omega, Lib.hid ⟨rfl, rfl⟩, HDL, HC5, HL5, HN5, HXn, Lib.hid (HFw.out.trans HF5.out (fun _ _ e => e)), HFw5⟩
        case measure => simp [intOf]; omega
      · have hdl' : ¬ (DL : Int) < LD := by omega
        rw [if_neg hdl] at hX2
        have HXn := Lib.hid hX2
        clear hX2
        go_wp2_with fail
        go_roundw
        case rel => exact ⟨i + 1, o, ld, A4, LD, c4, bi, wh, by go_num, rfl, rfl, rfl, by omega, by omega, HBi, HLD, HC4, Lib.hid (HLi.out.fr HF5.out (fun _ _ e => e)), HNe, HXn, Lib.hid (HFw.out.trans HF5.out (fun _ _ e => e)), HFw5⟩
        case measure => simp [intOf]; omega
    · obtain rfl : i = NC := by omega
      have hX := HX.out
      rw [List.drop_of_length_le (by have := HNC.out; omega)] at hX
      have HRz := Lib.hid (show R = (o, ld) from hX.symm)
      clear hX
      go_wp2_with fail
      go_ret3
      rw [HRz.out]
      exact ⟨A4, c4, by rw [HBi.out.1, HBi.out.2]; simp only [HLD.out]; rfl, by simp only [HLD.out]; exact HC4.out.1, HC4.out.2, HLi.out, HNe.out, HF.out.below (fun _ _ e => e)⟩
end Go.Proofs.YtkaeoflgnnlbeaaGreatDoor

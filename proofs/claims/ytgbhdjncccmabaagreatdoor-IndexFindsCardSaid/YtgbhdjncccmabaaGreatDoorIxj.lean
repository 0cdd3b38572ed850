/- What is proved: an index's memory: its rows are made, in whatever order the machine makes them. Conditions: at most 1000 ids. -/
import Derived.Test.YtgbhdjncccmabaaGreatDoorIxi
import Derived.OrdersHeld
import Derived.Deep.CutBlock
namespace Go.Proofs.YtgbhdjncccmabaaGreatDoor
open Go.RowKit
set_option linter.unusedVariables false

/-- As wpAnyH_take; the destination is set at once. -/
theorem wpAnyH_takeX {P : Program} {ops : Array Oper} {Q : Exit → Act → World → Prop} {md : Region.Mode} {S : World → Prop} {i : Nat} {oi : Oper} {v : Value} {fuel : Nat} {listed : Array Bool} {t : Array Value} {df : List Deferred} {w : World} (d : Tmp) (hi : ops[i]? = some oi) (hd : oi.dst = some d)
    (hs : Region.noSelect ops = true) (hf : Region.free md ops listed i = true) (hr : (Region.ready md ops listed).contains i = true)
    (hQ : ∀ c a w, Q (.panic c) (a.put oi.dst v) w → Q (.panic c) a w) (hy : YieldsIf P ops S oi v { tmps := t, defers := df }) (hS : S w)
    (h : wpAnyH P md ops Q S fuel (listed.setIfInBounds i true) { tmps := t.setIfInBounds d v, defers := df } w) : wpAnyH P md ops Q S (fuel + 1) listed { tmps := t, defers := df } w :=
  wpAnyH_take hi hs hf hr hQ hy hS (by rw [hd]; exact h)
theorem wp_makeX {P : Program} {op : Oper} {a : Act} {w : World} {K : Act → World → Prop} {Q : Exit → Act → World → Prop} (t : TypeId) (l c : Operand) (ho : op.op = .makeSlice t l c) (e : TypeId) (i : TypeInfo) (z : Value) (size : Nat)
    (ht : P.underlying t = some (.slice e)) (hi : P.info? e = some i) (hz : i.zero = some z) (hsize : i.size = size) (n : Nat) (hl : a.eval l = .int .i64 n) (hc : a.eval c = .int .i64 n) (hb : (i.bytes : Int) * (n : Int) ≤ 281474976710656) (hm : (n : Int) ≤ 9223372036854775807)
    (h : K (a.put op.dst (.slice (some ⟨w.heap.size, 0, none⟩) n n)) (w.alloc (.cells (madeCells z.cells (n * size)) e))) : op.wp P a w K Q := by
  subst hsize
  have hr := run_make (P := P) w t e i z ht hi hz .i64 .i64 n n (by omega) (Int.le_refl _) hb hm
  simp only [Int.toNat_natCast] at hr
  unfold Oper.wp
  simp [execOp, ho, hl, hc, hr, Result.andThen]
  exact h
theorem chain4 (w : World) (tA tB tC tD : TypeId) (A B C D : Array Value) :
    Whole ((((w.alloc (.cells A tA)).alloc (.cells B tB)).alloc (.cells C tC)).alloc (.cells D tD)) w.heap.size tA A ∧ Whole ((((w.alloc (.cells A tA)).alloc (.cells B tB)).alloc (.cells C tC)).alloc (.cells D tD)) (w.heap.size + 1) tB B ∧
    Whole ((((w.alloc (.cells A tA)).alloc (.cells B tB)).alloc (.cells C tC)).alloc (.cells D tD)) (w.heap.size + 1 + 1) tC C ∧ Whole ((((w.alloc (.cells A tA)).alloc (.cells B tB)).alloc (.cells C tC)).alloc (.cells D tD)) (w.heap.size + 1 + 1 + 1) tD D ∧
    Fr (fun _ => False) w ((((w.alloc (.cells A tA)).alloc (.cells B tB)).alloc (.cells C tC)).alloc (.cells D tD)) := by
  have e1 : (w.alloc (.cells A tA)).heap.size = w.heap.size + 1 := by simp
  have e2 : ((w.alloc (.cells A tA)).alloc (.cells B tB)).heap.size = w.heap.size + 1 + 1 := by simp
  have e3 : (((w.alloc (.cells A tA)).alloc (.cells B tB)).alloc (.cells C tC)).heap.size = w.heap.size + 1 + 1 + 1 := by simp
  have h1 := Whole.new w tA A
  have h2 := Whole.new (w.alloc (.cells A tA)) tB B
  have h3 := Whole.new ((w.alloc (.cells A tA)).alloc (.cells B tB)) tC C
  have h4 := Whole.new (((w.alloc (.cells A tA)).alloc (.cells B tB)).alloc (.cells C tC)) tD D
  rw [e1] at h2
  rw [e2] at h3
  rw [e3] at h4
  exact ⟨h1.fr ((((Fr.refl (fun _ => False) _).alloc _).alloc _).alloc _) (fun e => e), h2.fr (((Fr.refl (fun _ => False) _).alloc _).alloc _) (fun e => e), h3.fr ((Fr.refl (fun _ => False) _).alloc _) (fun e => e), h4, ((((Fr.refl (fun _ => False) _).alloc _).alloc _).alloc _).alloc _⟩

/-- An index's cells. -/
def idxC (f : Array Value) (k s a : Value) (of : Array Value) : Array Value := f ++ #[k, s, a] ++ of
def zeroK (n : Nat) : Array Value := madeCells (Value.agg zero32).cells (n * 32)
def zeroU (n : Nat) : Array Value := madeCells (Value.int .u32 0).cells (n * 1)
theorem infoKey : (Tryz.prog.info? 90).map (fun i => (i.zero, i.size, i.bytes)) = some (some (.agg zero32), 32, 32) := by kernel_rfl
theorem infoU32 : (Tryz.prog.info? 41).map (fun i => (i.zero, i.size, i.bytes)) = some (some (.int .u32 0), 1, 4) := by kernel_rfl
theorem build_idx (v1 v2 v3 : Value) : ((Tryz.zeroCells76.setIfInBounds 256 v1).setIfInBounds 257 v2).setIfInBounds 258 v3 = idxC (fanC (hist [])) v1 v2 v3 zero32 := by kernel_rfl
end Go.Proofs.YtgbhdjncccmabaaGreatDoor

/- What is proved: a writer that a call has made for itself: what each of its calls leaves; what an index's bytes are, plainly. Conditions: each theorem names its own. -/
import Derived.Test.YtgbhdjncccmabaaGreatDoorIxc
import Derived.Test.YtgbhdjncccmabaaGreatDoorDe
namespace Go.Proofs.YtgbhdjncccmabaaGreatDoor
open Go.RowKit
set_option linter.unusedVariables false

/-- A writer at block g, with all its own behind what stood in wB. -/
structure Wp (wB w : World) (g : Nat) (v : Value) (xs : List UInt8) : Prop where
  wr : Wr w g v xs
  lo : wB.heap.size ≤ g
  vo : ∀ j, v.ownBlock = some j → wB.heap.size ≤ j
  fr : Fr (fun _ => False) wB w
theorem Wp.frF {wB w w' : World} {g : Nat} {v : Value} {xs : List UInt8} (h : Wp wB w g v xs) (f : Fr (fun _ => False) w w') : Wp wB w' g v xs :=
  ⟨h.wr.fr f (fun e => e) (fun _ _ e => e), h.lo, h.vo, h.fr.trans f (fun _ _ e => e)⟩
theorem Wp.step {wB w w' : World} {g : Nat} {v : Value} {xs ys : List UInt8} (h : Wp wB w g v xs) (k : WTo w g v ys w') : ∃ v', Wp wB w' g v' ys := by
  obtain ⟨v', hw, hs⟩ := k
  refine ⟨v', hw, h.lo, fun j hj => ?_, h.fr.trans hs.fr (fun i hi e => ?_)⟩
  · rcases hs.own with e | ⟨b, e, hb⟩
    · exact h.vo j (by rw [← e]; exact hj)
    · rw [hj] at e; injection e with e; have := h.fr.size; omega
  · rcases e with e | e
    · have := h.lo; omega
    · have := h.vo i e; omega
theorem Wp.new (w : World) : Wp w (w.alloc (.cells #[.slice none 0 0] 153)) w.heap.size (.slice none 0 0) [] :=
  ⟨Wr.new w, Nat.le_refl _, fun j hj => by simp [Value.ownBlock] at hj, (Fr.refl _ w).alloc _⟩
def WpPost (wB : World) (g : Nat) (xs : List UInt8) (e : Ending) (w' : World) : Prop := e = .returned (.tuple #[]) ∧ ∃ v', Wp wB w' g v' xs
theorem WRaw_wp (wB w : World) (g : Nat) (v : Value) (xs ys : List UInt8) (A : Option Addr) (n c : Nat) (hn : ys.length = n) (h : Wp wB w g v xs) (hy : Lies w A (bytesV ys)) (hb : xs.length + ys.length ≤ 1000000) :
    Calls Tryz.prog 66 #[.pointer (some ⟨g, 0, none⟩), .slice A n c] w (WpPost wB g (xs ++ ys)) := by
  subst hn
  exact (WRaw_any g v xs ys A c w h.wr hy (by omega)).mono (fun e w' ⟨he, hw⟩ => ⟨he, h.step hw⟩)
theorem WU32_wp (wB w : World) (g : Nat) (v : Value) (xs : List UInt8) (n : Int) (h : Wp wB w g v xs) (h0 : 0 ≤ n) (h1 : n < 4294967296) (hb : xs.length ≤ 1000000) :
    Calls Tryz.prog 67 #[.pointer (some ⟨g, 0, none⟩), .int .u32 n] w (WpPost wB g (xs ++ hiB n 4 4)) :=
  (WU32_any g v xs n w h.wr h0 h1 (by omega)).mono (fun e w' ⟨he, hw⟩ => ⟨he, h.step hw⟩)
theorem WBytes_wp (wB w : World) (g : Nat) (v : Value) (xs : List UInt8) (h : Wp wB w g v xs) (hb : xs.length ≤ 1000000) :
    Calls Tryz.prog 69 #[.pointer (some ⟨g, 0, none⟩)] w (OwnPost w xs) := WBytes_any g v xs w h.wr (by omega)

/-! An index's bytes. -/
def idsP (ps : List Pl) : List Nat := ps.map (·.id)
theorem idsP_len (ps : List Pl) : (idsP ps).length = ps.length := by simp [idsP]
theorem idsP_gt (ps : List Pl) (k : Nat) (h : k < ps.length) : gt (idsP ps) k = (ps[k]!).id := by
  have := gt_some (idsP ps) k (by rw [idsP_len]; exact h)
  rw [idsP, List.getElem?_map, some_pl h] at this
  exact (Option.some.inj this).symm
def wordI : List UInt8 := [73, 78, 68, 88] ++ hiB 1 4 4
def fanTo (ns : List Nat) (k : Nat) : List UInt8 := (List.range k).flatMap fun c => hiB (fanN ns c : Nat) 4 4
def fanB (ns : List Nat) : List UInt8 := fanTo ns 256
def smB (ps : List Pl) : List UInt8 := ps.flatMap fun p => hiB p.sm 4 4
def atB (ps : List Pl) : List UInt8 := ps.flatMap fun p => hiB p.pos 4 4
def bodyI (ps : List Pl) (of : Nat) : List UInt8 := wordI ++ fanB (idsP ps) ++ joinI (idsP ps) ++ smB ps ++ atB ps ++ idL of
def fileI (ps : List Pl) (of : Nat) : List UInt8 := bodyI ps of ++ sumL (bodyI ps of)
theorem wordI_len : wordI.length = 8 := rfl
theorem fanTo_len (ns : List Nat) (k : Nat) : (fanTo ns k).length = 4 * k := by
  induction k with
  | zero => rfl
  | succ k ih => rw [fanTo, List.range_succ, List.flatMap_append, List.length_append, ← fanTo, ih]; simp [hiB_length]; omega
theorem fanTo_succ (ns : List Nat) (k : Nat) : fanTo ns (k + 1) = fanTo ns k ++ hiB (fanN ns k : Nat) 4 4 := by
  rw [fanTo, List.range_succ, List.flatMap_append, ← fanTo]; simp
theorem fanB_len (ns : List Nat) : (fanB ns).length = 1024 := fanTo_len ns 256
theorem smB_len (ps : List Pl) : (smB ps).length = 4 * ps.length := by
  induction ps with
  | nil => rfl
  | cons p ps ih => rw [show smB (p :: ps) = hiB p.sm 4 4 ++ smB ps from rfl, List.length_append, ih, hiB_length, List.length_cons]; omega
theorem atB_len (ps : List Pl) : (atB ps).length = 4 * ps.length := by
  induction ps with
  | nil => rfl
  | cons p ps ih => rw [show atB (p :: ps) = hiB p.pos 4 4 ++ atB ps from rfl, List.length_append, ih, hiB_length, List.length_cons]; omega
theorem smB_take (ps : List Pl) (k : Nat) (h : k < ps.length) : smB (ps.take (k + 1)) = smB (ps.take k) ++ hiB (ps[k]!).sm 4 4 := by
  rw [List.take_add_one, some_pl h]; simp [smB]
theorem atB_take (ps : List Pl) (k : Nat) (h : k < ps.length) : atB (ps.take (k + 1)) = atB (ps.take k) ++ hiB (ps[k]!).pos 4 4 := by
  rw [List.take_add_one, some_pl h]; simp [atB]
theorem bodyI_len (ps : List Pl) (of : Nat) : (bodyI ps of).length = 1064 + 40 * ps.length := by
  simp only [bodyI, List.length_append, wordI_len, fanB_len, joinI_len, smB_len, atB_len, idL_len, idsP_len]; omega
theorem fileI_len (ps : List Pl) (of : Nat) : (fileI ps of).length = 1096 + 40 * ps.length := by
  rw [fileI, List.length_append, bodyI_len, sumL_len]; omega

theorem index_fan (f : Nat → Nat) (i : Nat) (h : i < 256) (w : World) : (Instr.index 72 (.agg (fanC f)) (.int .i64 i)).run Tryz.prog w = .ok (.int .u32 (f i : Nat)) w := by
  have hu : Tryz.prog.underlying 72 = some (.array 256 41) := Tryz.underlying72
  have h1 : ∀ w, (isAgg 41).run Tryz.prog w = .ok false w := fun w => by kernel_rfl
  have h2 : ∀ w, (sizeOf 41).run Tryz.prog w = .ok 1 w := fun w => by kernel_rfl
  have hb : ((i : Nat) : Int) < 256 := by omega
  simp [Instr.index, run_underlying hu, part, h1, h2, fanC_get f i h, Result.andThen, asIntOf]
  intro h3; omega
theorem infoIDs : (Tryz.prog.info? 24).map (fun i => (i.zero, i.size, i.bytes)) = some (some (.agg zero32), 32, 32) := by kernel_rfl
theorem madeID (n : Nat) : (madeCells (Value.agg zero32).cells (n * 32)).toList = List.replicate (32 * n) (.int .u8 0) := by
  obtain ⟨R, hR⟩ : ∃ R, List.replicate 32 (Value.int .u8 0) = R := ⟨_, rfl⟩
  have hz : ∀ k, k < 32 → R[k]? = some (.int .u8 0) := fun k hk => by rw [← hR, List.getElem?_replicate, if_pos hk]
  have e : (Value.agg zero32).cells = R.toArray := by rw [← hR]; rfl
  have hs : R.length = 32 := by rw [← hR]; rfl
  rw [e]
  apply List.ext_getElem
  · simp [madeCells]; omega
  · intro j h1 h2
    have := hz (j % 32) (Nat.mod_lt _ (by decide))
    simp [madeCells, hs, this]
theorem laid_jrow (ns : List Nat) (k : Nat) (h : k < ns.length) : laidAt (jrow ns k).toArray (k * 32) (idC (dgt (gt ns k))) = (jrow ns (k + 1)).toArray := by
  have := jrow_next ns k h
  unfold splice at this
  unfold laidAt
  congr 1
  rw [← this, idL_cells, show k * 32 = 32 * k by omega, idC_size, bytesV_length, idL_len, List.append_assoc]
end Go.Proofs.YtgbhdjncccmabaaGreatDoor

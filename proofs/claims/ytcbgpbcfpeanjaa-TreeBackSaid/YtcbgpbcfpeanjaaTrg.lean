/- What is proved: plain facts on entries: texts in order, keys, an entry's cells, entries in a row, two entries held against one another whole. Conditions: none. -/
import Derived.Test.YtcbgpbcfpeanjaaTra
import Derived.Test.YtcbgpbcfpeanjaaTrn
import Derived.Sort.Walk0
import Derived.Lib.Bytealg
import Derived.Laws.StructEq
import Derived.Deep.RegionLaw
import Derived.Shelf.SlSortCmp.KitK
namespace Go.Proofs.Ytcbgpbcfpeanjaa
open Go.RowKit Go.Sort
set_option linter.unusedVariables false

/-! Texts in order. -/
def ltB (x y : List UInt8) : Bool := Op.bytesLess x y
theorem ltB_eq (x y : List UInt8) : ltB x y = decide (x < y) := bytesLess_eq x y
theorem ltB_nil (x : List UInt8) : ltB x [] = false := by rw [ltB_eq]; simp
theorem ltB_cons (a b : UInt8) (x y : List UInt8) : ltB (a :: x) (b :: y) = (decide (a < b) || (a == b && ltB x y)) := by
  rw [ltB_eq, ltB_eq, Bool.eq_iff_iff]
  simp [List.cons_lt_cons_iff]
theorem ltB_irrefl (x : List UInt8) : ltB x x = false := by
  induction x with
  | nil => exact ltB_nil _
  | cons a x ih => rw [ltB_cons, ih]; simp
theorem cmp_lt : ∀ (x y : List UInt8), decide (Lib.compareBytes x y < 0) = ltB x y
  | [], [] => by rw [ltB_nil]; rfl
  | [], b :: y => by rw [ltB_eq]; simp [Lib.compareBytes]
  | a :: x, [] => by rw [ltB_nil]; rfl
  | a :: x, b :: y => by
    rw [Lib.compareBytes, ltB_cons, ← cmp_lt x y]
    by_cases h1 : a < b
    · simp [h1]
    · rw [if_neg h1]
      by_cases h2 : b < a
      · have h3 : ¬ a = b := fun e => by subst e; exact h1 h2
        simp [h1, h2, h3]
      · have h3 : a = b := UInt8.le_antisymm (UInt8.not_lt.1 h2) (UInt8.not_lt.1 h1)
        simp [h3]
theorem ltB_trans : ∀ (x y z : List UInt8), ltB x y = true → ltB y z = true → ltB x z = true
  | _, _, [], _, h2 => by rw [ltB_nil] at h2; cases h2
  | _, [], _ :: _, h1, _ => by rw [ltB_nil] at h1; cases h1
  | [], _ :: _, _ :: _, _, _ => by rw [ltB_eq]; simp
  | a :: x, b :: y, c :: z, h1, h2 => by
    rw [ltB_cons] at *
    simp only [Bool.or_eq_true, decide_eq_true_eq, Bool.and_eq_true, beq_iff_eq] at *
    rcases h1 with h1 | ⟨rfl, h1⟩
    · rcases h2 with h2 | ⟨rfl, h2⟩
      · exact .inl (UInt8.lt_trans h1 h2)
      · exact .inl h1
    · rcases h2 with h2 | ⟨rfl, h2⟩
      · exact .inl h2
      · exact .inr ⟨rfl, ltB_trans x y z h1 h2⟩
theorem ltB_total : ∀ (x y : List UInt8), ltB x y = false → ltB y x = false → x = y
  | [], [], _, _ => rfl
  | [], b :: y, h1, _ => by rw [ltB_eq] at h1; simp at h1
  | a :: x, [], _, h2 => by rw [ltB_eq] at h2; simp at h2
  | a :: x, b :: y, h1, h2 => by
    rw [ltB_cons] at *
    simp only [Bool.or_eq_false_iff, decide_eq_false_iff_not, Bool.and_eq_false_iff, beq_eq_false_iff_ne, ne_eq] at h1 h2
    have e : a = b := UInt8.le_antisymm (UInt8.not_lt.1 h2.1) (UInt8.not_lt.1 h1.1)
    subst e
    rw [ltB_total x y (by rcases h1.2 with h | h; exact absurd rfl h; exact h) (by rcases h2.2 with h | h; exact absurd rfl h; exact h)]
theorem ltB_asymm (x y : List UInt8) (h : ltB x y = true) : ltB y x = false := by
  cases e : ltB y x with
  | false => rfl
  | true => have := ltB_trans x y x h e; rw [ltB_irrefl] at this; cases this
theorem ltB_ntrans (x y z : List UInt8) (h1 : ltB x y = false) (h2 : ltB y z = false) : ltB x z = false := by
  cases e : ltB x z with
  | false => rfl
  | true =>
    cases e2 : ltB y x with
    | true => have := ltB_trans y x z e2 e; rw [h2] at this; cases this
    | false => rw [ltB_total x y h1 e2] at e; rw [h2] at e; cases e

/-! Entries. -/
structure Ent where
  name : List UInt8
  mode : Int
  id : List UInt8
  hn : name.length ≤ 140737488355327
  hm : -9223372036854775808 ≤ mode ∧ mode ≤ 9223372036854775807
  hi : id.length = 32
instance : Inhabited Ent := ⟨⟨[], 0, List.replicate 32 0, by decide, by decide, by decide⟩⟩
theorem Ent.same {a b : Ent} (h1 : a.name = b.name) (h2 : a.mode = b.mode) (h3 : a.id = b.id) : a = b := by
  cases a; cases b; cases h1; cases h2; cases h3; rfl
def entEq (a b : Ent) : Bool := (a.name == b.name) && ((a.mode == b.mode) && decide (a.id = b.id))
theorem entEq_iff (a b : Ent) : entEq a b = true ↔ a = b := by
  simp only [entEq, Bool.and_eq_true, beq_iff_eq, decide_eq_true_eq]
  exact ⟨fun h => Ent.same h.1 h.2.1 h.2.2, fun h => by rw [h]; exact ⟨rfl, rfl, rfl⟩⟩
/-- What an entry stands in order by. -/
def keyE (e : Ent) : List UInt8 := if e.mode = 3 then e.name ++ [47] else e.name
def keyCmp (a b : Ent) : Int := Lib.compareBytes (keyE a) (keyE b)
def nameCmp (a b : Ent) : Int := Lib.compareBytes a.name b.name
theorem ltOf_key (a b : Ent) : ltOf keyCmp a b = ltB (keyE a) (keyE b) := cmp_lt _ _
theorem ltOf_name (a b : Ent) : ltOf nameCmp a b = ltB a.name b.name := cmp_lt _ _
theorem swoB {α : Type} (f : α → List UInt8) : SWO (fun a b => ltB (f a) (f b)) := ⟨fun x => ltB_irrefl _, fun x y z => ltB_trans _ _ _, fun x y z => ltB_ntrans _ _ _⟩
theorem keyE_len (e : Ent) : (keyE e).length ≤ 140737488355328 := by
  have := e.hn
  unfold keyE
  split
  · rw [List.length_append, List.length_singleton]; omega
  · omega

/-- An entry's cells. -/
def entV (e : Ent) : List Value := .string (strB e.name) :: .int .i64 e.mode :: bytesV e.id
theorem entV_len (e : Ent) : (entV e).length = 34 := by simp [entV, bytesV_length, e.hi]
theorem entV_one (e : Ent) : ∀ v ∈ entV e, v.oneCell' = true := by
  intro v hv
  rcases List.mem_cons.1 hv with rfl | hv
  · rfl
  · rcases List.mem_cons.1 hv with rfl | hv
    · rfl
    · exact bytesV_one _ _ hv
def flatE (es : List Ent) : List Value := es.flatMap entV
theorem flatE_cons (e : Ent) (es : List Ent) : flatE (e :: es) = entV e ++ flatE es := rfl
theorem flatE_append (a b : List Ent) : flatE (a ++ b) = flatE a ++ flatE b := List.flatMap_append
theorem flatE_len (es : List Ent) : (flatE es).length = es.length * 34 := by
  induction es with
  | nil => rfl
  | cons e es ih => rw [flatE_cons, List.length_append, ih, entV_len, List.length_cons]; omega
theorem flatE_one (es : List Ent) : ∀ u ∈ flatE es, u.oneCell' = true := fun u hu => by
  obtain ⟨e, _, he⟩ := List.mem_flatMap.1 hu
  exact entV_one e u he
theorem flatE_get (es : List Ent) (i j : Nat) (e : Ent) (h : es[i]? = some e) (hj : j < 34) : (flatE es)[i * 34 + j]? = (entV e)[j]? := by
  induction es generalizing i with
  | nil => simp at h
  | cons m es ih =>
    rw [flatE_cons]
    have hl := entV_len m
    cases i with
    | zero =>
      simp at h
      subst h
      rw [List.getElem?_append_left (by omega), Nat.zero_mul, Nat.zero_add]
    | succ i =>
      rw [List.getElem?_append_right (by omega), hl, show (i + 1) * 34 + j - 34 = i * 34 + j by omega]
      exact ih i (by simpa using h)
theorem flatE_take (es : List Ent) (k : Nat) : flatE (es.take k) = (flatE es).take (k * 34) := by
  induction es generalizing k with
  | nil => simp [flatE]
  | cons e es ih =>
    cases k with
    | zero => simp [flatE]
    | succ k => rw [List.take_succ_cons, flatE_cons, flatE_cons, ih, List.take_append, entV_len, List.take_of_length_le (l := entV e) (by rw [entV_len]; omega), show (k + 1) * 34 - 34 = k * 34 by omega]
theorem flatE_drop (es : List Ent) (k : Nat) : flatE (es.drop k) = (flatE es).drop (k * 34) := by
  induction es generalizing k with
  | nil => simp [flatE]
  | cons e es ih =>
    cases k with
    | zero => simp
    | succ k => rw [List.drop_succ_cons, flatE_cons, ih, List.drop_append, entV_len, List.drop_of_length_le (l := entV e) (by rw [entV_len]; omega), show (k + 1) * 34 - 34 = k * 34 by omega]; rfl

section
variable {w w' : World} {b o : Nat} {es : List Ent} {i : Nat} {e : Ent}
/-- Cell j of entry i. -/
theorem cell_ent (h : Lies w (some ⟨b, o, none⟩) (flatE es)) (hi : es[i]? = some e) (f : Fr (fun _ => False) w w') (j : Nat) (v : Value) (hv : (entV e)[j]? = some v) : w'.cell? ⟨b, o + i * 34 + j, none⟩ = some v := by
  have hj : j < 34 := by
    have := (List.getElem?_eq_some_iff.1 hv).1
    rwa [entV_len] at this
  have hg := flatE_get es i j e hi hj
  rw [hv] at hg
  rcases h with h | ⟨b', o', hA, hc⟩
  · rw [h] at hg; simp at hg
  · cases hA
    rw [Nat.add_assoc]
    exact f.cell (hc _ _ hg) (fun e => e)
theorem name_at (h : Lies w (some ⟨b, o, none⟩) (flatE es)) (hi : es[i]? = some e) (f : Fr (fun _ => False) w w') : w'.cell? ⟨b, o + i * 34, none⟩ = some (.string (strB e.name)) := cell_ent h hi f 0 _ rfl
theorem mode_at (h : Lies w (some ⟨b, o, none⟩) (flatE es)) (hi : es[i]? = some e) (f : Fr (fun _ => False) w w') : w'.cell? ⟨b, o + i * 34 + 1, none⟩ = some (.int .i64 e.mode) := cell_ent h hi f 1 _ rfl
/-- One entry of a list is read. -/
theorem load_ent (h : Lies w (some ⟨b, o, none⟩) (flatE es)) (hi : es[i]? = some e) (f : Fr (fun _ => False) w w') (n : Nat) (hn : n = 34) : (loadCellsFrom ⟨b, o + i * 34, none⟩ 0 n #[]).run Try.prog w' = .ok (entV e).toArray w' := by
  have h2 := run_loadCells_list (P := Try.prog) w' ⟨b, o + i * 34, none⟩ (entV e) (fun j v hv => by
    rw [add_off]
    exact cell_ent h hi f j v hv)
  rw [entV_len] at h2
  rw [hn]
  simpa [loadCells] using h2
end
theorem some_of_mem {es : List Ent} {i : Nat} (h : i < es.length) : es[i]? = some es[i]! := by
  rw [List.getElem?_eq_getElem h, getElem!_pos es i h]

/-! Two entries held against one another whole. -/
theorem run_equal_ints {P : Program} (w : World) (d : Nat) (t e : TypeId) (n : Nat) (k : IntKind) (ht : P.underlying t = some (.array n e)) (he : P.underlying e = some (.int k)) (hsz : ∀ w, (sizeOf e).run P w = .ok 1 w)
    (zs ys : List Int) (hz : zs.length = n) (hy : ys.length = n) : (Op.equalIn (d + 2) t (.agg (zs.map (Value.int k)).toArray) (.agg (ys.map (Value.int k)).toArray)).run P w = .ok (decide (zs = ys)) w := by
  rw [Op.equalIn]
  simp only [Sem.run_bind, run_underlying ht, Result.andThen_ok, hsz, Std.Legacy.Range.forIn_eq_forIn_range', Std.Legacy.Range.size, Nat.sub_zero, Nat.add_sub_cancel, Nat.div_one]
  have px : ∀ (xs : List Int) (i : Nat), i < xs.length → (part e (xs.map (Value.int k)).toArray (i * 1)).run P w = .ok (.int k (xs.getD i 0)) w := fun xs i hi => by
    simp [part, isAgg, run_underlying he, List.getD, List.getElem?_eq_getElem hi]
  have pe : ∀ i, (Op.equalIn (d + 1) e (.int k (zs.getD i 0)) (.int k (ys.getD i 0))).run P w = .ok (zs.getD i 0 == ys.getD i 0) w := fun i => run_equalIn_int w d e k k _ _ he
  have hall : ∀ m o, o + m = n → (∀ i, i < o → zs.getD i 0 = ys.getD i 0) → (decide (zs = ys)) = (List.range' o m 1).all (fun i => zs.getD i 0 == ys.getD i 0) := by
    intro m o ho hp
    rw [Bool.eq_iff_iff]
    simp only [decide_eq_true_eq, List.all_eq_true, beq_iff_eq]
    constructor
    · rintro rfl i _; rfl
    · intro h
      apply List.ext_getElem (by omega)
      intro i h1 h2
      have : zs.getD i 0 = ys.getD i 0 := by
        rcases Nat.lt_or_ge i o with h3 | h3
        · exact hp i h3
        · exact h i (by rw [List.mem_range'_1]; omega)
      simpa [List.getD, List.getElem?_eq_getElem h1, List.getElem?_eq_getElem h2] using this
  rw [hall n 0 (by omega) (fun i hi => by omega)]
  have hl : ∀ i ∈ List.range' 0 n 1, i < n := fun i hi => by simpa using (List.mem_range'_1.1 hi).2
  generalize List.range' 0 n 1 = l at hl ⊢
  clear hall
  induction l with
  | nil => simp
  | cons i l ih =>
    have hi : i < n := hl i (by simp)
    simp only [List.forIn_cons, Sem.run_bind, px zs i (by omega), px ys i (by omega), pe i, Result.andThen_ok, List.all_cons]
    cases hc : (zs.getD i 0 == ys.getD i 0)
    · simp only [Bool.not_false, if_true, Sem.run_pure, Result.andThen_ok, Bool.false_and]
    · simp only [Bool.not_true, Bool.false_eq_true, if_false, Sem.run_pure, Result.andThen_ok, Bool.true_and]
      exact ih fun j hj => hl j (by simp [hj])
theorem eq_id (a b : List UInt8) (ha : a.length = 32) (hb : b.length = 32) (m : Nat) (hm : 2 ≤ m) (w : World) : (Op.equalIn m 43 (.agg (bytesV a).toArray) (.agg (bytesV b).toArray)).run Try.prog w = .ok (decide (a = b)) w := by
  obtain ⟨d, rfl⟩ : ∃ d, m = d + 2 := ⟨m - 2, by omega⟩
  have e : ∀ l : List UInt8, bytesV l = (l.map fun b => ((b.toNat : Nat) : Int)).map (Value.int .u8) := fun l => by rw [bytesV, List.map_map]; rfl
  have h := run_equal_ints (P := Try.prog) w d 43 5 32 .u8 Try.underlying43 Try.underlying5 (fun _ => by kernel_rfl) (a.map fun b => ((b.toNat : Nat) : Int)) (b.map fun b => ((b.toNat : Nat) : Int)) (by simpa using ha) (by simpa using hb)
  rw [← e, ← e] at h
  rw [h]
  congr 1
  rw [decide_eq_decide]
  refine ⟨fun h => ?_, fun h => by rw [h]⟩
  exact (List.map_inj_right (fun x y (hxy : ((x.toNat : Nat) : Int) = y.toNat) => UInt8.toNat_inj.1 (by omega))).1 h
theorem fieldsE : (Try.prog.fieldsOf 45).toList.map (fun f => (f.name, f.type, f.offset)) = [("Name", 9, 0), ("Mode", 3, 1), ("ID", 43, 2)] := by kernel_rfl
theorem underE : Try.prog.underlying 45 = some (.struct (Try.prog.fieldsOf 45)) := by kernel_rfl
theorem stoodE : Try.prog.stoodInHeld 45 = false := by kernel_rfl
theorem aggID (w : World) : (isAgg 43).run Try.prog w = .ok true w := by kernel_rfl
theorem sizID (w : World) : (sizeOf 43).run Try.prog w = .ok 32 w := by kernel_rfl
theorem aggInt (w : World) : (isAgg 3).run Try.prog w = .ok false w := by kernel_rfl
theorem aggStr (w : World) : (isAgg 9).run Try.prog w = .ok false w := by kernel_rfl
theorem partName (e : Ent) (w : World) : (part 9 (entV e).toArray 0).run Try.prog w = .ok (.string (strB e.name)) w := by
  simp [part, entV]
theorem partMode (e : Ent) (w : World) : (part 3 (entV e).toArray 1).run Try.prog w = .ok (.int .i64 e.mode) w := by
  simp [part, entV]
theorem partId (e : Ent) (w : World) : (part 43 (entV e).toArray 2).run Try.prog w = .ok (.agg (bytesV e.id).toArray) w := by
  simp only [part, Sem.run_bind, aggID, sizID, Result.andThen_ok, if_true, Sem.run_pure]
  congr 2
  apply Array.toList_inj.1
  rw [Array.toList_extract, List.extract]
  simp only [List.drop_succ_cons, List.drop_zero, entV]
  exact List.take_of_length_le (by rw [bytesV_length, e.hi]; decide)
theorem eq_ents (a b : Ent) (m : Nat) (hm : 3 ≤ m) (w : World) : (Op.equalIn m 45 (.agg (entV a).toArray) (.agg (entV b).toArray)).run Try.prog w = .ok (entEq a b) w := by
  obtain ⟨d, rfl⟩ : ∃ d, m = d + 2 + 1 := ⟨m - 3, by omega⟩
  rw [run_equalIn_struct w (d + 2) 45 _ _ underE stoodE]
  have hf := fieldsE
  generalize (Try.prog.fieldsOf 45).toList = fs at hf
  rcases fs with _ | ⟨f, _ | ⟨g, _ | ⟨k, _ | ⟨f', fs'⟩⟩⟩⟩
  · simp at hf
  · simp at hf
  · simp at hf
  · simp only [List.map_cons, List.map_nil, List.cons.injEq, Prod.mk.injEq, and_true] at hf
    obtain ⟨⟨f1, f2, f3⟩, ⟨g1, g2, g3⟩, k1, k2, k3⟩ := hf
    have es : (Op.equalIn (d + 2) 9 (.string (strB a.name)) (.string (strB b.name))).run Try.prog w = .ok (a.name == b.name) w := by
      rw [← str_eq]
      exact run_equalIn_string w (d + 1) 9 _ _ Try.underlying9
    have en : (Op.equalIn (d + 2) 3 (.int .i64 a.mode) (.int .i64 b.mode)).run Try.prog w = .ok (a.mode == b.mode) w := run_equalIn_int w (d + 1) 3 .i64 .i64 _ _ Try.underlying3
    have ei := eq_id a.id b.id a.hi b.hi (d + 2) (by omega) w
    simp only [Op.eqFields, f1, f2, f3, g1, g2, g3, k1, k2, k3, Sem.run_bind, partName, es, Result.andThen_ok, ne_eq, show ¬ ("Name" = "_") by decide, show ¬ ("Mode" = "_") by decide, show ¬ ("ID" = "_") by decide, not_false_eq_true, if_true, entEq]
    cases (a.name == b.name)
    · simp
    · simp only [Bool.not_true, Bool.false_eq_true, if_false, Sem.run_bind, partMode, en, Result.andThen_ok, Bool.true_and]
      cases (a.mode == b.mode)
      · simp
      · simp only [Bool.not_true, Bool.false_eq_true, if_false, Sem.run_bind, partId, ei, Result.andThen_ok, Bool.true_and]
        cases decide (a.id = b.id) <;> simp
  · simp at hf
end Go.Proofs.Ytcbgpbcfpeanjaa

/- What is proved: the call's own map from arrays of six bytes to rows of numbers: a look-up, an append at a key. Conditions: the map's block is as told. -/
import Derived.Test.YthjfkeploofblaaDba
import Derived.Test.YthjfkeploofblaaDeg
import Derived.DeepKeys4
import Derived.Maps.Keyed
import Derived.Maps.OwnRows
import Derived.WideKeyEntry
namespace Go.Proofs.Ythjfkeploofblaa
open Go.RowKit Go.Maps
set_option linter.unusedVariables false

theorem laidOut9 : laidOutB Try.prog = true := by kernel_rfl
set_option maxRecDepth 100000 in
theorem row6 : (109 : TypeId) < Try.prog.types.size := Nat.le_of_ble_eq_true (by kernel_rfl)
set_option maxRecDepth 100000 in
theorem wide6 : (match Try.prog.underlying 109 with | some (.array _ _) | some (.struct _) => true | _ => false) = true := by kernel_rfl
set_option maxRecDepth 100000 in
theorem law6 : Keyed Try.prog 109 := Keyed.of_law (deep_law_laid laidOut9 (m := 2) (by omega) row6 (by kernel_rfl) wide6)
def keyV (k : List UInt8) : Value := .agg (bytesV k).toArray
theorem under6 : Try.prog.underlying 109 = some (.array 6 5) := by kernel_rfl
theorem cells6 : Try.prog.cellsOf 109 = 6 := by kernel_rfl
theorem cells1 : Try.prog.cellsOf 5 = 1 := by kernel_rfl
theorem type6 : Try.prog.keyType 109 = true := by kernel_rfl
theorem key_lit (d : Nat) (b : UInt8) : Try.prog.keyLits (d + 1) 5 [byteV b] = some [.int .u8 b.toNat] := by
  have h : (Lit.int .u8 (b.toNat : Int)).wf = true := by
    have := b.toNat_lt
    simp [Lit.wf, IntKind.min, IntKind.max, IntKind.signed, IntKind.bits]
    omega
  simp [Program.keyLits, Try.underlying5, byteV, h]
theorem key_reads (k : List UInt8) (hk : k.length = 6) : ∃ l, keyOf Try.prog 109 (keyV k) = some l := by
  match k, hk with
  | [b0, b1, b2, b3, b4, b5], _ =>
    have hf : (keyV [b0, b1, b2, b3, b4, b5]).formed Try.prog 109 = true := by simp [keyV, bytesV, Value.formed, cells6]
    have ht : Try.prog.types.size + 1 = (Try.prog.types.size - 1) + 1 + 1 := by
      have h2 : 0 < Try.prog.types.size := Nat.lt_of_le_of_lt (Nat.zero_le _) row6
      omega
    unfold keyOf
    simp only [under6]
    rw [type6, hf, ht]
    have e : Try.prog.keyLits ((Try.prog.types.size - 1) + 1 + 1) 109 (keyV [b0, b1, b2, b3, b4, b5]).cells.toList = some [.int .u8 b0.toNat, .int .u8 b1.toNat, .int .u8 b2.toNat, .int .u8 b3.toNat, .int .u8 b4.toNat, .int .u8 b5.toNat] := by
      conv => lhs; unfold Program.keyLits
      simp [cells6, cells1, keyV, bytesV, Value.cells, List.range_succ, key_lit]
    rw [e]
    exact ⟨_, rfl⟩
theorem keyV_inj {a b : List UInt8} (h : keyV a = keyV b) : a = b := by
  unfold keyV at h
  injection h with h
  have h2 := congrArg Array.toList h
  simp only [bytesV] at h2
  refine (List.map_inj_right (f := byteV) ?_).1 h2
  intro x y hxy
  unfold byteV at hxy
  injection hxy with _ h3
  exact UInt8.toNat_inj.1 (by omega)

theorem underM : Try.prog.underlying 86 = some (.map 109 110) := by kernel_rfl
theorem zeroM (w : World) : (zeroValue 110).run Try.prog w = .ok (.slice none 0 0) w := by kernel_rfl
def natsV (l : List Nat) : List Value := l.map fun n : Nat => Value.int .i64 (n : Int)
theorem natsV_append (a b : List Nat) : natsV (a ++ b) = natsV a ++ natsV b := by simp [natsV]
/-- Block b is a map from six bytes to own rows of numbers: at k it has the numbers G k. -/
def MapIs (w : World) (base b : Nat) (G : List UInt8 → List Nat) : Prop :=
  ∃ es clock, w.heap[b]? = some (.map es clock) ∧ b < base ∧ MapKept.Stamped es clock ∧
    (∀ x ∈ es.toList, ∃ k, k.length = 6 ∧ x.key = keyV k ∧ w.ownsRow base 3 1 x.val (G k).length (natsV (G k))) ∧
    (∀ k, k.length = 6 → (∀ x ∈ es.toList, x.key ≠ keyV k) → G k = []) ∧
    (∀ x ∈ es.toList, ∀ y ∈ es.toList, x.key ≠ y.key → x.val.ownBlock = none ∨ x.val.ownBlock ≠ y.val.ownBlock)
theorem MapIs.fr {w w' : World} {base b : Nat} {G : List UInt8 → List Nat} (h : MapIs w base b G) (f : Fr (fun _ => False) w w') : MapIs w' base b G := by
  obtain ⟨es, clock, hb, hbb, hst, he, hn, ha⟩ := h
  exact ⟨es, clock, (f.block b (Array.getElem?_eq_some_iff.1 hb).1 (fun e => e)).trans hb, hbb, hst, fun x hx => by
    obtain ⟨k, h1, h2, h3⟩ := he x hx
    exact ⟨k, h1, h2, own_fr h3 f (fun _ _ e => e)⟩, hn, ha⟩
theorem MapIs.made (w : World) : MapIs (w.alloc (.map #[] 0)) (w.heap.size + 1) w.heap.size (fun _ => []) :=
  ⟨#[], 0, (MapKept.heap_alloc w _).1, Nat.lt_succ_self _, MapKept.stamped_empty 0, by simp, fun _ _ _ => rfl, by simp⟩
theorem MapIs.congr {w : World} {base b : Nat} {G G' : List UInt8 → List Nat} (h : MapIs w base b G) (e : ∀ k, k.length = 6 → G' k = G k) : MapIs w base b G' := by
  obtain ⟨es, clock, hb, hbb, hst, he, hn, ha⟩ := h
  refine ⟨es, clock, hb, hbb, hst, fun x hx => ?_, fun k hk hx => by rw [e k hk]; exact hn k hk hx, ha⟩
  obtain ⟨k, h1, h2, h3⟩ := he x hx
  exact ⟨k, h1, h2, by rw [e k h1]; exact h3⟩

theorem map_look {w : World} {base b : Nat} {G : List UInt8 → List Nat} (h : MapIs w base b G) (k : List UInt8) (hk : k.length = 6) :
    ∃ v, (Instr.lookup 86 (.map (some b)) (keyV k) false).run Try.prog w = .ok v w ∧ w.ownsRow base 3 1 v (G k).length (natsV (G k)) := by
  obtain ⟨es, clock, hb, hbb, hst, he, hn, ha⟩ := h
  obtain ⟨kl, hkey⟩ := key_reads k hk
  have hkeys : ∀ e ∈ es.toList, ∃ l, keyOf Try.prog 109 e.key = some l := fun x hx => by
    obtain ⟨k', h1, h2, _⟩ := he x hx
    rw [h2]
    exact key_reads k' h1
  rcases law6.find w hkey es.toList hkeys with ⟨h1, h2⟩ | ⟨j, e0, h1, h2, h3⟩
  · refine ⟨.slice none 0 0, by simp [Instr.lookup, run_underlying underM, MapKept.run_getObj_map hb, law6.check w _ hkey, h1, Result.andThen], ?_⟩
    rw [hn k hk h2]
    exact World.ownsRow_nil _ _ _ _
  · refine ⟨e0.val, by simp [Instr.lookup, run_underlying underM, MapKept.run_getObj_map hb, law6.check w _ hkey, h1, Result.andThen], ?_⟩
    obtain ⟨k', g1, g2, g3⟩ := he e0 (List.mem_of_getElem? h2)
    rw [h3] at g2
    rw [keyV_inj g2]
    exact g3

theorem mem_set_key {l : List MapEntry} (hn : l.Pairwise (fun x y => x.key ≠ y.key)) {j : Nat} {e0 a : MapEntry} (hj : l[j]? = some e0) {x : MapEntry} (hx : x ∈ l.set j a) : x = a ∨ x ∈ l ∧ x.key ≠ e0.key := by
  obtain ⟨i, hi⟩ := List.mem_iff_getElem?.1 hx
  rw [List.getElem?_set] at hi
  split at hi
  · split at hi
    · left; simpa using hi.symm
    · simp at hi
  · rename_i hne
    right
    refine ⟨List.mem_of_getElem? hi, ?_⟩
    obtain ⟨hil, hix⟩ := List.getElem?_eq_some_iff.1 hi
    obtain ⟨hjl, hjx⟩ := List.getElem?_eq_some_iff.1 hj
    rw [List.pairwise_iff_getElem] at hn
    rcases (by omega : i < j ∨ j < i) with h | h
    · have := hn i j hil hjl h
      rw [hix, hjx] at this
      exact this
    · have := hn j i hjl hil h
      rw [hix, hjx] at this
      exact fun e => this e.symm

theorem fr_setBlock {w : World} {b : Nat} {o : Obj} : Fr (fun j => j = b) w (ChangeMaps.setBlock w b o) :=
  ⟨rfl, rfl, rfl, by simp [ChangeMaps.setBlock], fun k hk hn => by
    unfold ChangeMaps.setBlock
    simp only
    rw [Array.getElem?_setIfInBounds_ne (fun e => hn e.symm)]⟩

def gUpd (G : List UInt8 → List Nat) (k : List UInt8) (ns : List Nat) : List UInt8 → List Nat := fun k' => if k' = k then ns else G k'
theorem gUpd_same (G : List UInt8 → List Nat) (k : List UInt8) (ns : List Nat) : gUpd G k ns k = ns := if_pos rfl
theorem gUpd_other (G : List UInt8 → List Nat) {k k' : List UInt8} (ns : List Nat) (h : k' ≠ k) : gUpd G k ns k' = G k' := if_neg h

/-- The way back: what was appended at the key is stored there. -/
def MapBack (w1 : World) (base b st : Nat) (v : Value) (G : List UInt8 → List Nat) (k : List UInt8) : Prop :=
  ∀ w2 v' ns', Fr (fun j => v.ownBlock = some j) w1 w2 → w2.ownsRow base 3 1 v' ns'.length (natsV ns') → (v'.ownBlock = v.ownBlock ∨ ∃ g, v'.ownBlock = some g ∧ w1.heap.size ≤ g) →
    ∃ w3, (Instr.entryStore 86 (.map (some b)) (.int .i64 st) v').run Try.prog w2 = .ok () w3 ∧ Fr (fun j => j = b) w2 w3 ∧ MapIs w3 base b (gUpd G k ns')

/-- Entries of which just one is the new one. -/
theorem map_close {w w1 w2 : World} {base b : Nat} {G : List UInt8 → List Nat} {es es1 es' : Array MapEntry} {clock1 : Nat} {k : List UInt8} {v v' : Value} {ns' : List Nat} (hk : k.length = 6)
    (hb : w.heap[b]? = some (.map es clock1) ∨ b < w.heap.size) (hbb : b < base) (f1 : Fr (fun j => j = b) w w1) (f2 : Fr (fun j => v.ownBlock = some j) w1 w2) (hsz : w1.heap.size = w.heap.size)
    (he : ∀ x ∈ es.toList, ∃ k, k.length = 6 ∧ x.key = keyV k ∧ w.ownsRow base 3 1 x.val (G k).length (natsV (G k)))
    (hn : ∀ k, k.length = 6 → (∀ x ∈ es.toList, x.key ≠ keyV k) → G k = [])
    (hva : ∀ x ∈ es.toList, x.key ≠ keyV k → x.val.ownBlock = none ∨ x.val.ownBlock ≠ v.ownBlock)
    (ha : ∀ x ∈ es.toList, ∀ y ∈ es.toList, x.key ≠ y.key → x.val.ownBlock = none ∨ x.val.ownBlock ≠ y.val.ownBlock)
    (hb2 : w2.heap[b]? = some (.map es1 clock1)) (hst : MapKept.Stamped es' clock1)
    (hwho : ∀ x ∈ es'.toList, (x ∈ es.toList ∧ x.key ≠ keyV k) ∨ (x.key = keyV k ∧ x.val = v'))
    (hold : ∀ x ∈ es.toList, x.key ≠ keyV k → x ∈ es'.toList) (hnew : ∃ x ∈ es'.toList, x.key = keyV k)
    (ho : w2.ownsRow base 3 1 v' ns'.length (natsV ns')) (hloc : v'.ownBlock = v.ownBlock ∨ ∃ g, v'.ownBlock = some g ∧ w1.heap.size ≤ g) :
    MapIs (ChangeMaps.setBlock w2 b (.map es' clock1)) base b (gUpd G k ns') := by
  have f3 : Fr (fun j => j = b) w2 (ChangeMaps.setBlock w2 b (.map es' clock1)) := fr_setBlock
  -- an old entry at another key lies apart from the new row
  have old_new : ∀ x ∈ es.toList, x.key ≠ keyV k → x.val.ownBlock = none ∨ x.val.ownBlock ≠ v'.ownBlock := by
    intro x hx hne
    rcases hloc with h1 | ⟨g, h1, h2⟩
    · rw [h1]; exact hva x hx hne
    · cases hx' : x.val.ownBlock with
      | none => exact .inl rfl
      | some gx =>
        obtain ⟨_, _, _, hox⟩ := he x hx
        have := (World.ownsRow.lt hox gx hx').2
        refine .inr (fun e => ?_)
        rw [h1] at e
        injection e with e
        omega
  refine ⟨es', clock1, ChangeMaps.heap_setBlock_same hb2 _, hbb, hst, fun x hx => ?_, fun k' hk' hno => ?_, fun x hx y hy hne => ?_⟩
  · rcases hwho x hx with ⟨hx0, hne⟩ | ⟨hxk, hxv⟩
    · obtain ⟨k0, h1, h2, h3⟩ := he x hx0
      have hk0 : k0 ≠ k := fun e => hne (by rw [h2, e])
      refine ⟨k0, h1, h2, ?_⟩
      rw [gUpd_other G ns' hk0]
      refine own_fr (own_fr (own_fr h3 f1 (fun j hj e => ?_)) f2 (fun j hj e => ?_)) f3 (fun j hj e => ?_)
      · have := (World.ownsRow.lt h3 j hj).1; omega
      · rcases hva x hx0 hne with h | h
        · rw [h] at hj; cases hj
        · exact h (by rw [hj, e])
      · have := (World.ownsRow.lt h3 j hj).1; omega
    · refine ⟨k, hk, hxk, ?_⟩
      rw [gUpd_same, hxv]
      exact own_fr ho f3 (fun j hj e => by have := (World.ownsRow.lt ho j hj).1; omega)
  · have hkk : k' ≠ k := by
      rintro rfl
      obtain ⟨x, hx, hxk⟩ := hnew
      exact hno x hx hxk
    rw [gUpd_other G ns' hkk]
    refine hn k' hk' (fun x hx e => ?_)
    exact hno x (hold x hx (fun e' => hkk (keyV_inj (e.symm.trans e')))) e
  · rcases hwho x hx with ⟨hx0, hxn⟩ | ⟨hxk, hxv⟩ <;> rcases hwho y hy with ⟨hy0, hyn⟩ | ⟨hyk, hyv⟩
    · exact ha x hx0 y hy0 hne
    · rw [hyv]; exact old_new x hx0 hxn
    · rw [hxv]
      cases hv' : v'.ownBlock with
      | none => exact .inl rfl
      | some g =>
        refine .inr (fun e => ?_)
        rcases old_new y hy0 hyn with h | h
        · rw [h] at e; cases e
        · exact h (by rw [hv', e])
    · exact absurd (hxk.trans hyk.symm) hne

theorem map_entry {w : World} {base b : Nat} {G : List UInt8 → List Nat} (h : MapIs w base b G) (k : List UInt8) (hk : k.length = 6) :
    ∃ (v : Value) (st : Nat) (w1 : World), (Instr.mapEntry 86 (.map (some b)) (keyV k)).run Try.prog w = .ok (.tuple #[v, .int .i64 st]) w1 ∧ Fr (fun j => j = b) w w1 ∧ w1.heap.size = w.heap.size ∧
      w1.ownsRow base 3 1 v (G k).length (natsV (G k)) ∧ MapBack w1 base b st v G k := by
  obtain ⟨es, clock, hb, hbb, hst, he, hn, ha⟩ := h
  obtain ⟨kl, hkey⟩ := key_reads k hk
  have hkeys : ∀ e ∈ es.toList, ∃ l, keyOf Try.prog 109 e.key = some l := fun x hx => by
    obtain ⟨k', h1, h2, _⟩ := he x hx
    rw [h2]
    exact key_reads k' h1
  have hblt := (Array.getElem?_eq_some_iff.1 hb).1
  obtain ⟨s1, s2, s3⟩ := (MapKept.stamped_iff es clock).1 hst
  rcases law6.find w hkey es.toList hkeys with ⟨h1, h2⟩ | ⟨j, e0, h1, h2, h3⟩
  · have hw1 : (ChangeMaps.setBlock w b (.map (es.push ⟨keyV k, .slice none 0 0, clock⟩) (clock + 1))).heap[b]? = some (.map (es.push ⟨keyV k, .slice none 0 0, clock⟩) (clock + 1)) := ChangeMaps.heap_setBlock_same hb _
    have f1 : Fr (fun j => j = b) w (ChangeMaps.setBlock w b (.map (es.push ⟨keyV k, .slice none 0 0, clock⟩) (clock + 1))) := fr_setBlock
    refine ⟨.slice none 0 0, clock, _, ?_, f1, by simp [ChangeMaps.setBlock], by rw [hn k hk h2]; exact World.ownsRow_nil _ _ _ _, fun w2 v' ns' f2 ho hloc => ?_⟩
    · simp [Instr.mapEntry, run_underlying underM, MapKept.run_getObj_map hb, law6.check w false hkey, h1, MapKept.run_setObj_map _ hb, Result.andThen, ChangeMaps.setBlock, goInt]
    · have hw2 : w2.heap[b]? = some (.map (es.push ⟨keyV k, .slice none 0 0, clock⟩) (clock + 1)) := (f2.block b (by simpa [ChangeMaps.setBlock] using hblt) (by simp [Value.ownBlock])).trans hw1
      have hidx : (es.push ⟨keyV k, .slice none 0 0, clock⟩).findIdx? (fun e => ((e.born : Nat) : Int) == ((clock : Nat) : Int)) = some es.size := by
        rw [WideElems.findIdx_arr]
        exact WideElems.findIdx_born (l := (es.push ⟨keyV k, .slice none 0 0, clock⟩).toList) (j := es.size) (e0 := ⟨keyV k, .slice none 0 0, clock⟩) (by
          simp only [Array.toList_push, List.map_append, List.map_cons, List.map_nil]
          refine List.nodup_append.2 ⟨s2, by simp, fun a ha' c hc e1 => ?_⟩
          simp only [List.mem_singleton] at hc
          obtain ⟨x, hx, rfl⟩ := List.mem_map.1 ha'
          have := s1 x hx
          omega) (by simp)
      have hmod : (es.push ⟨keyV k, .slice none 0 0, clock⟩).modify es.size (fun e => { e with val := v' }) = es.push ⟨keyV k, v', clock⟩ := by
        apply Array.ext'
        rw [Array.toList_modify, Array.toList_push, Array.toList_push, ← Array.length_toList, WideElems.modify_last]
      refine ⟨ChangeMaps.setBlock w2 b (.map (es.push ⟨keyV k, v', clock⟩) (clock + 1)), ?_, fr_setBlock, ?_⟩
      · simp [Instr.entryStore, MapKept.run_getObj_map hw2, asInt, asIntOf, hidx, hmod, MapKept.run_setObj_map _ hw2, Result.andThen, ChangeMaps.setBlock]
      · refine map_close (es := es) (v := .slice none 0 0) hk (.inr hblt) hbb f1 f2 (by simp [ChangeMaps.setBlock]) he hn (fun x _ _ => by cases x.val.ownBlock <;> simp [Value.ownBlock]) ha hw2 (MapKept.stamped_push hst h2) (fun x hx => ?_) (fun x hx _ => by simp [hx]) ⟨⟨keyV k, v', clock⟩, by simp, rfl⟩ ho hloc
        simp only [Array.toList_push, List.mem_append, List.mem_singleton] at hx
        rcases hx with hx | rfl
        · exact .inl ⟨hx, h2 x hx⟩
        · exact .inr ⟨rfl, rfl⟩
  · have hj : es[j]? = some e0 := by simpa using h2
    have hm0 : e0 ∈ es.toList := List.mem_of_getElem? h2
    have hsame : es.modify j (fun e => { e with key := keyV k }) = es := by
      apply Array.ext'
      rw [Array.toList_modify, ChangeMaps.modify_eq_set _ _ _ _ h2]
      have : ({ e0 with key := keyV k } : MapEntry) = e0 := by rw [← h3]
      rw [this]
      exact WideElems.set_self _ _ _ h2
    have hw1 : (ChangeMaps.setBlock w b (.map es clock)).heap[b]? = some (.map es clock) := ChangeMaps.heap_setBlock_same hb _
    have f1 : Fr (fun j => j = b) w (ChangeMaps.setBlock w b (.map es clock)) := fr_setBlock
    obtain ⟨k', g1, g2, g3⟩ := he e0 hm0
    rw [h3] at g2
    have hkk := keyV_inj g2
    subst hkk
    have hob : e0.val.ownBlock ≠ some b := fun e => by have := (World.ownsRow.lt g3 b e).1; omega
    refine ⟨e0.val, e0.born, _, ?_, f1, by simp [ChangeMaps.setBlock], own_fr g3 f1 (fun i hi e => by subst e; exact hob hi), fun w2 v' ns' f2 ho hloc => ?_⟩
    · simp [Instr.mapEntry, run_underlying underM, MapKept.run_getObj_map hb, law6.check w false hkey, h1, hj, h3, law6.stays w hkey, hsame, MapKept.run_setObj_map _ hb, Result.andThen, ChangeMaps.setBlock, goInt]
    · have hw2 : w2.heap[b]? = some (.map es clock) := (f2.block b (by simpa [ChangeMaps.setBlock] using hblt) hob).trans hw1
      have hidx : es.findIdx? (fun e => ((e.born : Nat) : Int) == ((e0.born : Nat) : Int)) = some j := by
        rw [WideElems.findIdx_arr]
        exact WideElems.findIdx_born s2 h2
      have hlist : (es.modify j (fun e => { e with val := v' })).toList = es.toList.set j { e0 with val := v' } := by
        rw [Array.toList_modify, ChangeMaps.modify_eq_set _ _ _ _ h2]
      refine ⟨ChangeMaps.setBlock w2 b (.map (es.modify j (fun e => { e with val := v' })) clock), ?_, fr_setBlock, ?_⟩
      · simp [Instr.entryStore, MapKept.run_getObj_map hw2, asInt, asIntOf, hidx, MapKept.run_setObj_map _ hw2, Result.andThen, ChangeMaps.setBlock]
      · refine map_close (es := es) (v := e0.val) hk (.inr hblt) hbb f1 f2 (by simp [ChangeMaps.setBlock]) he hn (fun x hx hne => ha x hx e0 hm0 (by rw [h3]; exact hne)) ha hw2 (MapKept.stamped_modify hst j _ (fun _ _ => rfl) (fun _ _ _ => rfl)) (fun x hx => ?_) (fun x hx hne => ?_) ⟨{ e0 with val := v' }, ?_, h3⟩ ho hloc
        · rw [hlist] at hx
          rcases mem_set_key s3 h2 hx with rfl | ⟨h4, h5⟩
          · exact .inr ⟨h3, rfl⟩
          · exact .inl ⟨h4, by rw [← h3]; exact h5⟩
        · rw [hlist]
          obtain ⟨i, hi⟩ := List.mem_iff_getElem?.1 hx
          have hij : j ≠ i := by
            rintro rfl
            rw [h2] at hi
            injection hi with hi
            subst hi
            exact hne h3
          exact List.mem_of_getElem? (i := i) (by rw [List.getElem?_set_ne hij]; exact hi)
        · rw [hlist]
          have hjl := (List.getElem?_eq_some_iff.1 h2).1
          exact List.mem_of_getElem? (i := j) (by rw [List.getElem?_set_self hjl])
end Go.Proofs.Ythjfkeploofblaa

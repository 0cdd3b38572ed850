/- What is proved: an entry's key, and which of two entries stands behind the other, by the program and by the document. Conditions: none. -/
import Derived.Test.YtcbgpbcfpeanjaaTrg
import Derived.Test.YtcbgpbcfpeanjaaTrf
import Derived.Deep.RegionWith
namespace Go.Proofs.Ytcbgpbcfpeanjaa
open Go.RowKit Go.Sort Go.Shelf
set_option linter.unusedVariables false

theorem grow_below (w : World) (n : Nat) (os : Array Obj) : Below w.heap.size w (grow (w.drewN n) os) := by
  have h : Fr (fun _ => False) w (grow (w.drewN n) os) := ⟨rfl, rfl, rfl, by rw [size_grow]; exact Nat.le_add_right _ _, fun k hk _ => Array.getElem?_append_left hk⟩
  exact h.below (fun _ _ e => e)
theorem info_ent : (Try.prog.info? 45).map (fun i => (i.zero, i.size, i.bytes)) = some (some (.agg (entV default).toArray), 34, 56) := by kernel_rfl

set_option maxHeartbeats 1600000 in
theorem Tkey_grow (e : Ent) (w : World) : Calls Try.prog 35 #[.agg (entV e).toArray] w fun r w' => r = .returned (.string (strB (keyE e))) ∧ ∃ q os', w' = grow (w.drewN q) os' := by
  (
    have hone := fun w => join_one (P := Try.prog) e.name (by have := e.hn; omega) w
    obtain ⟨ca, hca⟩ : ∃ c, (entV e).toArray = c := ⟨_, rfl⟩
    obtain ⟨w1, hw1⟩ : ∃ w1, w.alloc (.cells ca 45) = w1 := ⟨_, rfl⟩
    have hW : Whole w1 w.heap.size 45 ca := by subst hw1; exact Whole.new w 45 _
    have c0 : w1.cell? ⟨w.heap.size, 0, none⟩ = some (.string (strB e.name)) := by rw [hW.cell, ← hca]; rfl
    have c1 : w1.cell? ⟨w.heap.size, 1, none⟩ = some (.int .i64 e.mode) := by rw [hW.cell, ← hca]; rfl
    have HG : Hid (∃ q os', w1 = grow (w.drewN q) os') := Lib.hid ⟨0, #[.cells ca 45], by rw [← hw1, alloc_eq_grow]; rfl⟩
    obtain ⟨S, hS⟩ : ∃ S, strB e.name = S := ⟨_, rfl⟩
    obtain ⟨S1, hS1⟩ : ∃ S, strB (e.name ++ [47]) = S := ⟨_, rfl⟩
    have HK : Hid (strB (keyE e) = if e.mode = 3 then S1 else S) := Lib.hid (by rw [keyE]; split <;> simp [*])
    obtain ⟨K, hK⟩ : ∃ K, strB (keyE e) = K := ⟨_, rfl⟩
    obtain ⟨m, hm⟩ : ∃ m, e.mode = m := ⟨_, rfl⟩
    rw [hS, hS1] at hone
    rw [hS] at c0
    rw [hm] at c1 HK
    rw [hK] at HK ⊢
    rw [hca]
    clear hca hW hS hS1 hK hm
    go_enter Try.func35, Try.ntmps35
    by_cases h3 : m = 3
    · go_wp2
      go_ret
      exact ⟨by rw [HK.out, if_pos h3]; rfl, HG.out⟩
    · go_wp2
      go_ret
      exact ⟨by rw [HK.out, if_neg h3]; rfl, HG.out⟩)
set_option maxHeartbeats 1600000 in
theorem QtKey_grow (e : Ent) (w : World) : Calls Try.prog 30 #[.agg (entV e).toArray] w fun r w' => r = .returned (.string (strB (keyE e))) ∧ ∃ q os', w' = grow (w.drewN q) os' := by
  (
    have hone := fun w => join_one (P := Try.prog) e.name (by have := e.hn; omega) w
    obtain ⟨ca, hca⟩ : ∃ c, (entV e).toArray = c := ⟨_, rfl⟩
    obtain ⟨w1, hw1⟩ : ∃ w1, w.alloc (.cells ca 45) = w1 := ⟨_, rfl⟩
    have hW : Whole w1 w.heap.size 45 ca := by subst hw1; exact Whole.new w 45 _
    have c0 : w1.cell? ⟨w.heap.size, 0, none⟩ = some (.string (strB e.name)) := by rw [hW.cell, ← hca]; rfl
    have c1 : w1.cell? ⟨w.heap.size, 1, none⟩ = some (.int .i64 e.mode) := by rw [hW.cell, ← hca]; rfl
    have HG : Hid (∃ q os', w1 = grow (w.drewN q) os') := Lib.hid ⟨0, #[.cells ca 45], by rw [← hw1, alloc_eq_grow]; rfl⟩
    obtain ⟨S, hS⟩ : ∃ S, strB e.name = S := ⟨_, rfl⟩
    obtain ⟨S1, hS1⟩ : ∃ S, strB (e.name ++ [47]) = S := ⟨_, rfl⟩
    have HK : Hid (strB (keyE e) = if e.mode = 3 then S1 else S) := Lib.hid (by rw [keyE]; split <;> simp [*])
    obtain ⟨K, hK⟩ : ∃ K, strB (keyE e) = K := ⟨_, rfl⟩
    obtain ⟨m, hm⟩ : ∃ m, e.mode = m := ⟨_, rfl⟩
    rw [hS, hS1] at hone
    rw [hS] at c0
    rw [hm] at c1 HK
    rw [hK] at HK ⊢
    rw [hca]
    clear hca hW hS hS1 hK hm
    go_enter Try.func30, Try.ntmps30
    by_cases h3 : m = 3
    · go_wp2
      go_ret
      exact ⟨by rw [HK.out, if_pos h3]; rfl, HG.out⟩
    · go_wp2
      go_ret
      exact ⟨by rw [HK.out, if_neg h3]; rfl, HG.out⟩)
theorem QtKey_any (e : Ent) (w : World) : Calls Try.prog 30 #[.agg (entV e).toArray] w fun r w' => r = .returned (.string (strB (keyE e))) ∧ Below w.heap.size w w' :=
  (QtKey_grow e w).mono fun _ _ ⟨h, q, os, hw⟩ => ⟨h, by rw [hw]; exact grow_below _ _ _⟩

set_option maxHeartbeats 1000000 in
set_option maxRecDepth 100000 in
theorem GbCompareString_any (a b : List UInt8) (w : World) : Calls Try.prog 45 #[.string (strB a), .string (strB b)] w fun e w' => e = .returned (.int .i64 (Lib.compareBytes a b)) ∧ w' = w := by
  have hr := Lib.hid (Lib.run_compareString (P := Try.prog) (strB a) (strB b) w)
  rw [strB_data, strB_data] at hr
  obtain ⟨S, hS⟩ : ∃ S, strB a = S := ⟨_, rfl⟩
  obtain ⟨S2, hS2⟩ : ∃ S, strB b = S := ⟨_, rfl⟩
  rw [hS, hS2] at hr ⊢
  clear hS hS2
  go_enter Try.func45, Try.ntmps45
  go_wp2
  rw [run_callFunc_extern Try.func52 (by kernel_rfl) (by kernel_rfl) (by kernel_rfl) (e := Extern.BytealgCompare.compare) (by kernel_rfl), hr.out]
  simp only [Result.andThen]
  rw [Oper.upon_value]
  go_wp2
  go_ret
  exact ⟨rfl, rfl⟩
set_option maxHeartbeats 1000000 in
theorem GsCompare_any (a b : List UInt8) (w : World) : Calls Try.prog 34 #[.string (strB a), .string (strB b)] w fun e w' => e = .returned (.int .i64 (Lib.compareBytes a b)) ∧ w' = w := by
  have hc := Lib.hid (GbCompareString_any a b w)
  go_enter Try.func34, Try.ntmps34
  go_wp2_with (go_at_call 45; refine hc.out.mono ?_; rintro e w' ⟨rfl, rfl⟩)
  go_ret
  exact ⟨rfl, rfl⟩

set_option maxHeartbeats 1600000 in
/-- compareKeys, to the world's last draw. -/
theorem TcompareKeys_grow (x y : Ent) (w : World) : Calls Try.prog 24 #[.agg (entV x).toArray, .agg (entV y).toArray] w fun e w' => e = .returned (.int .i64 (keyCmp x y)) ∧ ∃ q os', w' = grow (w.drewN q) os' := by
  have k1 := fun w => Tkey_grow x w
  have k2 := fun w => Tkey_grow y w
  (
    obtain ⟨T, hT⟩ : ∃ T : TypeId, T = 45 := ⟨_, rfl⟩
    obtain ⟨kn, hk⟩ : ∃ n : Nat, n = 34 := ⟨_, rfl⟩
    have aE : ∀ w, (isAgg T).run Try.prog w = .ok true w := by rw [hT]; exact fun _ => by kernel_rfl
    have zE : ∀ w, (sizeOf T).run Try.prog w = .ok kn w := by rw [hT, hk]; exact fun _ => by kernel_rfl
    have mixed : Try.prog.follows .mixedOrders = true := by kernel_rfl
    obtain ⟨w1, hw1⟩ : ∃ w1, w.alloc (.cells (entV x).toArray 45) = w1 := ⟨_, rfl⟩
    obtain ⟨w2, hw2⟩ : ∃ w2, w1.alloc (.cells (entV y).toArray 45) = w2 := ⟨_, rfl⟩
    have hF2 : Fr (fun _ => False) w1 w2 := by subst hw2; exact (Fr.refl _ w1).alloc _
    have hA : Whole w2 w.heap.size 45 (entV x).toArray := by subst hw1; exact (Whole.new w 45 _).fr hF2 (fun e => e)
    have hB : Whole w2 w1.heap.size 45 (entV y).toArray := by subst hw2; exact Whole.new w1 45 _
    have HG := Lib.hid (show ∀ n os, grow (w2.drewN n) os = grow (w.drewN n) (#[.cells (entV x).toArray 45, .cells (entV y).toArray 45] ++ os) from fun n os => by
      rw [← hw2, ← hw1, alloc_eq_grow, alloc_eq_grow, grow_grow]
      show grow (grow (w.drewN n) (#[_] ++ #[_])) os = _
      rw [grow_grow]; rfl)
    have hl : ∀ (e : Ent) (g : Nat), Whole w2 g 45 (entV e).toArray → ∀ n os, Sem.run Try.prog (loadCellsFrom ⟨g, 0, none⟩ 0 kn #[]) (grow (w2.drewN n) os) = .ok (entV e).toArray (grow (w2.drewN n) os) := fun e g hg n os => by
      have h2 := run_loadCells_list (P := Try.prog) (grow (w2.drewN n) os) ⟨g, 0, none⟩ (entV e) (fun j v hv => by
        rw [add_off, Nat.zero_add]
        exact cell_grown (a := ⟨g, j, none⟩) hg.lt (by rw [hg.cell, List.getElem?_toArray]; exact hv) n os)
      rw [entV_len] at h2
      rw [hk]
      simpa [loadCells] using h2
    have l1 := hl x _ hA
    have l2 := hl y _ hB
    have HC := Lib.hid (fun w => GsCompare_any (keyE x) (keyE y) w)
    have HR : Hid (keyCmp x y = Lib.compareBytes (keyE x) (keyE y)) := Lib.hid rfl
    obtain ⟨cx, hcx⟩ : ∃ c, (entV x).toArray = c := ⟨_, rfl⟩
    obtain ⟨cy, hcy⟩ : ∃ c, (entV y).toArray = c := ⟨_, rfl⟩
    obtain ⟨sx, hsx⟩ : ∃ s, strB (keyE x) = s := ⟨_, rfl⟩
    obtain ⟨sy, hsy⟩ : ∃ s, strB (keyE y) = s := ⟨_, rfl⟩
    obtain ⟨r, hr⟩ : ∃ r, Lib.compareBytes (keyE x) (keyE y) = r := ⟨_, rfl⟩
    rw [HR.out, hr])
  rw [hcx] at hw1 l1 k1 HG ⊢
  rw [hcy] at hw2 l2 k2 HG ⊢
  rw [hsx] at HC k1
  rw [hsy] at HC k2
  rw [hr] at HC
  clear hA hB hF2 hl hcx hcy hsx hsy hr hk HR
  go_enter Try.func24, Try.ntmps24
  rw [show Op.load 45 (.tmp 2) = Op.load T (.tmp 2) by rw [hT], show Op.load 45 (.tmp 3) = Op.load T (.tmp 3) by rw [hT]]
  clear hT
  go_wp2_with fail
  go_quiet_grown (first
    | (go_at_call 34; refine Calls.grown_of ((HC.out _).mono fun _ _ ⟨h1, h2⟩ => ⟨h1, 0, #[], by rw [h2, grow_empty]; rfl⟩))
    | (go_at_call_of 35 (Value.agg cx); refine Calls.grown_of (k1 _))
    | (go_at_call_of 35 (Value.agg cy); refine Calls.grown_of (k2 _)))
  go_wp2_with fail
  go_ret
  exact ⟨rfl, _, _, HG.out _ _⟩

set_option maxHeartbeats 1600000 in
/-- compareNames, to the world's last draw. -/
theorem TcompareNames_grow (x y : Ent) (w : World) : Calls Try.prog 47 #[.agg (entV x).toArray, .agg (entV y).toArray] w fun e w' => e = .returned (.int .i64 (nameCmp x y)) ∧ ∃ q os', w' = grow (w.drewN q) os' := by
  (
    obtain ⟨T, hT⟩ : ∃ T : TypeId, T = 45 := ⟨_, rfl⟩
    obtain ⟨kn, hk⟩ : ∃ n : Nat, n = 34 := ⟨_, rfl⟩
    have aE : ∀ w, (isAgg T).run Try.prog w = .ok true w := by rw [hT]; exact fun _ => by kernel_rfl
    have zE : ∀ w, (sizeOf T).run Try.prog w = .ok kn w := by rw [hT, hk]; exact fun _ => by kernel_rfl
    have mixed : Try.prog.follows .mixedOrders = true := by kernel_rfl
    obtain ⟨w1, hw1⟩ : ∃ w1, w.alloc (.cells (entV x).toArray 45) = w1 := ⟨_, rfl⟩
    obtain ⟨w2, hw2⟩ : ∃ w2, w1.alloc (.cells (entV y).toArray 45) = w2 := ⟨_, rfl⟩
    have hF2 : Fr (fun _ => False) w1 w2 := by subst hw2; exact (Fr.refl _ w1).alloc _
    have hA : Whole w2 w.heap.size 45 (entV x).toArray := by subst hw1; exact (Whole.new w 45 _).fr hF2 (fun e => e)
    have hB : Whole w2 w1.heap.size 45 (entV y).toArray := by subst hw2; exact Whole.new w1 45 _
    have HG := Lib.hid (show ∀ n os, grow (w2.drewN n) os = grow (w.drewN n) (#[.cells (entV x).toArray 45, .cells (entV y).toArray 45] ++ os) from fun n os => by
      rw [← hw2, ← hw1, alloc_eq_grow, alloc_eq_grow, grow_grow]
      show grow (grow (w.drewN n) (#[_] ++ #[_])) os = _
      rw [grow_grow]; rfl)
    have hl : ∀ (e : Ent) (g : Nat), Whole w2 g 45 (entV e).toArray → ∀ n os, Sem.run Try.prog (loadCellsFrom ⟨g, 0, none⟩ 0 kn #[]) (grow (w2.drewN n) os) = .ok (entV e).toArray (grow (w2.drewN n) os) := fun e g hg n os => by
      have h2 := run_loadCells_list (P := Try.prog) (grow (w2.drewN n) os) ⟨g, 0, none⟩ (entV e) (fun j v hv => by
        rw [add_off, Nat.zero_add]
        exact cell_grown (a := ⟨g, j, none⟩) hg.lt (by rw [hg.cell, List.getElem?_toArray]; exact hv) n os)
      rw [entV_len] at h2
      rw [hk]
      simpa [loadCells] using h2
    have l1 := hl x _ hA
    have l2 := hl y _ hB
    have HC := Lib.hid (fun w => GsCompare_any (Ent.name x) (Ent.name y) w)
    have HR : Hid (nameCmp x y = Lib.compareBytes (Ent.name x) (Ent.name y)) := Lib.hid rfl
    obtain ⟨cx, hcx⟩ : ∃ c, (entV x).toArray = c := ⟨_, rfl⟩
    obtain ⟨cy, hcy⟩ : ∃ c, (entV y).toArray = c := ⟨_, rfl⟩
    obtain ⟨sx, hsx⟩ : ∃ s, strB (Ent.name x) = s := ⟨_, rfl⟩
    obtain ⟨sy, hsy⟩ : ∃ s, strB (Ent.name y) = s := ⟨_, rfl⟩
    obtain ⟨r, hr⟩ : ∃ r, Lib.compareBytes (Ent.name x) (Ent.name y) = r := ⟨_, rfl⟩
    rw [HR.out, hr])
  have d1 : w2.cell? ⟨w.heap.size, 0, none⟩ = some (.string (strB x.name)) := by rw [hA.cell]; rfl
  have d2 : w2.cell? ⟨w1.heap.size, 0, none⟩ = some (.string (strB y.name)) := by rw [hB.cell]; rfl
  rw [hcx] at hw1 HG ⊢
  rw [hcy] at hw2 HG ⊢
  rw [hsx] at HC d1
  rw [hsy] at HC d2
  rw [hr] at HC
  clear hA hB hF2 hl hcx hcy hsx hsy hr hk HR l1 l2
  go_enter Try.func47, Try.ntmps47
  go_wp2_with (go_at_call 34; refine (HC.out _).mono ?_; rintro e w' ⟨rfl, rfl⟩)
  go_ret
  exact ⟨rfl, _, _, by have := HG.out 0 #[]; rw [grow_empty] at this; exact this⟩

/-! Decorated by where they stood. -/
abbrev EntN := Ent × Nat
def encN (x : EntN) : List Value := entV x.1
def cfN (cf : Ent → Ent → Int) (x y : EntN) : Int := cf x.1 y.1
theorem cmpLays_keys (blk off size : Nat) (w : World) : CmpLays Try.prog 24 #[] encN 34 (cfN keyCmp) blk off size w :=
  fun m os dk _ x y => by
    have h := TcompareKeys_grow x.1 y.1 (sortWorldK encN 34 w blk off m dk os)
    simpa [encN, cfN] using h
theorem cmpLays_names (blk off size : Nat) (w : World) : CmpLays Try.prog 47 #[] encN 34 (cfN nameCmp) blk off size w :=
  fun m os dk _ x y => by
    have h := TcompareNames_grow x.1 y.1 (sortWorldK encN 34 w blk off m dk os)
    simpa [encN, cfN] using h
theorem swo_keys : SWO (ltOf (cfN keyCmp)) := by
  have e : ltOf (cfN keyCmp) = fun a b : EntN => ltB (keyE a.1) (keyE b.1) := by
    funext a b
    exact ltOf_key a.1 b.1
  rw [e]
  exact swoB (fun a : EntN => keyE a.1)
theorem swo_names : SWO (ltOf (cfN nameCmp)) := by
  have e : ltOf (cfN nameCmp) = fun a b : EntN => ltB a.1.name b.1.name := by
    funext a b
    exact ltOf_name a.1 b.1
  rw [e]
  exact swoB (fun a : EntN => a.1.name)
theorem enters_keys : ∀ args w, (callFunc 24 args).run Try.prog w = .ok (.enter 24 args) w := enters_of Try.func24 (by kernel_rfl) rfl
theorem enters_names : ∀ args w, (callFunc 47 args).run Try.prog w = .ok (.enter 47 args) w := enters_of Try.func47 (by kernel_rfl) rfl
end Go.Proofs.Ytcbgpbcfpeanjaa

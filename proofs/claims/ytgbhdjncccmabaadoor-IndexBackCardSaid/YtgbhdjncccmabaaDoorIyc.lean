/- What is proved: what an index's bytes tell makes just these bytes; an index has just the places that it was made of, plainly. Conditions: each theorem names its own. -/
import Derived.Test.YtgbhdjncccmabaaDoorIxu
namespace Go.Proofs.YtgbhdjncccmabaaDoor
open Go.RowKit
set_option linter.unusedVariables false

theorem chunks (d : Nat) (l : List UInt8) (m : Nat) : (List.range m).flatMap (fun k => (l.drop (d * k)).take d) = l.take (d * m) := by
  induction m with
  | zero => simp
  | succ m ih => rw [List.range_succ, List.flatMap_append, ih, Nat.mul_succ, List.take_add]; simp
theorem chunksAt (d o : Nat) (l : List UInt8) (m : Nat) : (List.range m).flatMap (fun k => (l.drop (o + d * k)).take d) = (l.drop o).take (d * m) := by
  have := chunks d (l.drop o) m
  simp only [List.drop_drop] at this
  exact this
theorem flatMap_same {α : Type} {l : List α} {f g : α → List UInt8} (h : ∀ a ∈ l, f a = g a) : l.flatMap f = l.flatMap g := by
  rw [List.flatMap_def, List.flatMap_def, List.map_congr_left h]
/-- The places that an index's bytes tell. -/
def plsB (b : List UInt8) : List Pl := (List.range (nB b)).map fun k => ⟨keyR (midB b) k, (atR (midB b) (nB b) k : Nat), (smR (midB b) (nB b) k : Nat)⟩
theorem plsB_len (b : List UInt8) : (plsB b).length = nB b := by simp [plsB]
theorem plsB_at (b : List UInt8) (k : Nat) (h : k < nB b) : (plsB b)[k]! = ⟨keyR (midB b) k, (atR (midB b) (nB b) k : Nat), (smR (midB b) (nB b) k : Nat)⟩ := by
  rw [getElem!_pos _ k (by rw [plsB_len]; exact h)]
  simp [plsB]
theorem idsP_plsB (b : List UInt8) : idsP (plsB b) = idsB b := by
  unfold idsP plsB idsB keyL
  rw [List.map_map]
  rfl
theorem plsB_ok (b : List UInt8) : ∀ p ∈ plsB b, p.Ok := fun p hp => by
  obtain ⟨k, _, rfl⟩ := List.mem_map.1 hp
  have h1 := u4_lt (midB b) (1024 + 32 * nB b + 4 * k)
  have h2 := u4_lt (midB b) (1024 + 36 * nB b + 4 * k)
  unfold smR atR
  exact ⟨keyR_big _ _, by show (-9223372036854775808 : Int) ≤ (u4 _ _ : Nat); omega, by show ((u4 _ _ : Nat) : Int) ≤ 9223372036854775807; omega, by show (0 : Int) ≤ (u4 _ _ : Nat); omega, by show ((u4 _ _ : Nat) : Int) < 4294967296; omega⟩
theorem opE_ok {b : List UInt8} (h : opE b = 0) : (cntR b).2 = 0 ∧ sumOk b = true ∧ ris (idsB b) ∧ (∀ c, c < 256 → fanR (midB b) c = fanN (idsB b) c) ∧ ∀ k, k < nB b → atR (midB b) (nB b) k ≤ 1048576 := by
  unfold opE at h
  split at h
  · rename_i h1; exact absurd h h1
  split at h
  · cases h
  split at h
  · cases h
  split at h
  · cases h
  rename_i h1 h2 h3 h4
  refine ⟨by simpa using h1, by simpa using h2, (risB_iff _).1 ?_, (sameF_iff _ _).1 ?_, fun k hk => ?_⟩
  · cases hr : risB (idsB b)
    · exact absurd (.inl hr) h3
    · rfl
  · cases hr : fanOk b
    · exact absurd (.inr hr) h3
    · exact hr
  · have h5 : atOk b = true := by simpa using h4
    exact of_decide_eq_true (List.all_eq_true.1 h5 k (List.mem_range.2 hk))
theorem back_body {b : List UInt8} (h : opE b = 0) : bodyI (plsB b) (ofR (midB b) (nB b)) = b.take (b.length - 32) := by
  obtain ⟨h1, h2, h3, h4, h5⟩ := opE_ok h
  obtain ⟨-, hl, hn, hw, hu⟩ := cnt_ok h1
  have hm := midB_len hl
  obtain ⟨n, hnd⟩ : ∃ n, nB b = n := ⟨_, rfl⟩
  rw [hnd] at hl hn hm
  have e8 : wordI = b.take 8 := by
    have ha : b.take 4 = [73, 78, 68, 88] := of_decide_eq_true hw
    have hb : hiB (bigV ((b.drop 4).take 4)) 4 4 = (b.drop 4).take 4 := hiB_bigV4 _ (by rw [List.length_take, List.length_drop]; omega)
    unfold u4 at hu
    rw [hu] at hb
    rw [show (8 : Nat) = 4 + 4 from rfl, List.take_add, ha, ← hb]
    rfl
  have eb : b.take (b.length - 32) = b.take 8 ++ midB b := by
    rw [midB, ← List.take_add]
    congr 1
    omega
  have ef : fanB (idsP (plsB b)) = (midB b).take 1024 := by
    rw [fanB_eq, idsP_plsB]
    have hc := chunks 4 (midB b) 256
    rw [← hc]
    refine flatMap_same (fun c hc => ?_)
    have hc2 := List.mem_range.1 hc
    rw [← h4 c hc2]
    unfold fanR u4
    exact hiB_bigV4 _ (by rw [List.length_take, List.length_drop]; omega)
  have ek : joinI (idsP (plsB b)) = ((midB b).drop 1024).take (32 * n) := by
    rw [idsP_plsB, joinI, idsB, keyL, hnd, List.flatMap_map, ← chunksAt]
    refine flatMap_same (fun k hk => ?_)
    have hk2 := List.mem_range.1 hk
    unfold keyR
    exact idL_bigV _ (by rw [List.length_take, List.length_drop]; omega)
  have es : smB (plsB b) = ((midB b).drop (1024 + 32 * n)).take (4 * n) := by
    rw [smB, plsB, hnd, List.flatMap_map, ← chunksAt]
    refine flatMap_same (fun k hk => ?_)
    have hk2 := List.mem_range.1 hk
    show hiB (smR (midB b) n k : Nat) 4 4 = _
    unfold smR u4
    exact hiB_bigV4 _ (by rw [List.length_take, List.length_drop]; omega)
  have ea : atB (plsB b) = ((midB b).drop (1024 + 36 * n)).take (4 * n) := by
    rw [atB, plsB, hnd, List.flatMap_map, ← chunksAt]
    refine flatMap_same (fun k hk => ?_)
    have hk2 := List.mem_range.1 hk
    show hiB (atR (midB b) n k : Nat) 4 4 = _
    unfold atR u4
    exact hiB_bigV4 _ (by rw [List.length_take, List.length_drop]; omega)
  have eo : idL (ofR (midB b) n) = ((midB b).drop (1024 + 40 * n)).take 32 := by
    unfold ofR
    exact idL_bigV _ (by rw [List.length_take, List.length_drop]; omega)
  have em : (midB b).take 1024 ++ (((midB b).drop 1024).take (32 * n) ++ (((midB b).drop (1024 + 32 * n)).take (4 * n) ++ (((midB b).drop (1024 + 36 * n)).take (4 * n) ++ ((midB b).drop (1024 + 40 * n)).take 32))) = midB b := by
    rw [show 1024 + 36 * n = 1024 + 32 * n + 4 * n by omega, show 1024 + 40 * n = 1024 + 32 * n + 4 * n + 4 * n by omega, ← List.append_assoc, ← List.take_add, ← List.append_assoc, ← List.take_add, ← List.append_assoc, ← List.take_add, ← List.take_add, List.take_of_length_le (by omega)]
  rw [bodyI, hnd, ef, ek, es, ea, eo, e8, eb]
  simp only [List.append_assoc]
  rw [em]
theorem sorted_ris {s : List Pl} (h : ris (idsP s)) : s.Pairwise leP ∧ dupS s = false := by
  refine ⟨sorted_at (fun i j hij hj => ?_), ?_⟩
  · have := h i j hij (by rw [idsP_len]; exact hj)
    rw [idsP_gt _ _ (by omega), idsP_gt _ _ hj] at this
    omega
  · cases hd : dupS s
    · rfl
    · obtain ⟨k, hk, e⟩ := (dupS_iff s).1 hd
      have := h k (k + 1) (by omega) (by rw [idsP_len]; exact hk)
      rw [idsP_gt _ _ (by omega), idsP_gt _ _ hk] at this
      omega
/-- What an index's bytes tell makes just these bytes. -/
theorem open_make {b : List UInt8} (h : opE b = 0) : mkE (plsB b) = 0 ∧ mkB (plsB b) (ofR (midB b) (nB b)) = b := by
  obtain ⟨h1, h2, h3, h4, h5⟩ := opE_ok h
  obtain ⟨hs, hd⟩ := sorted_ris (s := plsB b) (by rw [idsP_plsB]; exact h3)
  have hb : badS (plsB b) = false := by
    rw [badS, List.any_eq_false]
    intro p hp
    obtain ⟨k, hk, rfl⟩ := List.mem_map.1 hp
    have := h5 k (List.mem_range.1 hk)
    simp
    omega
  obtain ⟨e0, e1⟩ := mk_ok (List.Perm.refl (plsB b)) hs hd hb
  refine ⟨e0, ?_⟩
  have hsum : sumL (b.take (b.length - 32)) = b.drop (b.length - 32) := of_decide_eq_true h2
  rw [mkB, if_pos e0, ← e1, fileI, back_body h, hsum, List.take_append_drop]
theorem mk_props {l : List Pl} (h : mkE l = 0) : dupS (srtP l) = false ∧ badS (srtP l) = false := by
  unfold mkE at h
  split at h
  · cases h
  split at h
  · cases h
  · rename_i h1 h2; exact ⟨by simpa using h1, by simpa using h2⟩
theorem srt_ris {l : List Pl} (h : mkE l = 0) : ris (idsP (srtP l)) := fun i j hij hj => by
  rw [idsP_len] at hj
  rw [idsP_gt _ _ (by omega), idsP_gt _ _ hj]
  exact rising_of (srtP_sorted l) (mk_props h).1 hij hj
/-- What the bytes of places that were made tell. -/
theorem make_open {l : List Pl} {of : Nat} (hn : l.length ≤ 600) (hok : ∀ p ∈ l, p.Ok) (hof : of < big) (h : mkE l = 0) :
    nB (mkB l of) = l.length ∧ opE (mkB l of) = 0 ∧ ofR (midB (mkB l of)) l.length = of ∧ plsB (mkB l of) = srtP l := by
  have hB : mkB l of = fileI (srtP l) of := if_pos h
  have hm : ∀ p ∈ srtP l, p.Ok := fun p hp => hok p ((srtP_perm l).mem_iff.1 hp)
  have hbad := (mk_props h).2
  rw [badS, List.any_eq_false] at hbad
  obtain ⟨h1, h2, h3, h4, h5⟩ := file_props (srtP l) of (by rw [srtP_len]; exact hn) (fun p hp => (hm p hp).id) (fun p hp => ⟨(hm p hp).s0, (hm p hp).s1⟩) (fun p hp => by have := hbad p hp; simp at this; exact this) (srt_ris h) hof
  rw [srtP_len] at h1 h3 h4
  rw [hB]
  obtain ⟨F, hF⟩ : ∃ F, fileI (srtP l) of = F := ⟨_, rfl⟩
  rw [hF] at h1 h2 h3 h4 ⊢
  clear hF hB h5
  refine ⟨h1, h2, h4, ?_⟩
  apply List.ext_getElem
  · rw [plsB_len, h1, srtP_len]
  · intro k k1 k2
    have hk : k < l.length := by rwa [plsB_len, h1] at k1
    obtain ⟨e1, e2, e3⟩ := h3 k hk
    have e0 := plsB_at F k (by rw [h1]; exact hk)
    rw [getElem!_pos _ k k1] at e0
    have e4 : (srtP l)[k] = (srtP l)[k]! := (getElem!_pos _ k k2).symm
    rw [e0, e4, h1, e1, e2, e3]
theorem has_gt {ns : List Nat} (hr : ris ns) {j : Nat} (hj : j < ns.length) : posN ns (gt ns j) = j ∧ hasN ns (gt ns j) = true := by
  have h : posN ns (gt ns j) = j := pos_unique ns _ j (by omega) (fun i hi => hr i j hi hj) (fun _ => Nat.le_refl _)
  refine ⟨h, ?_⟩
  unfold hasN
  rw [h]
  exact decide_eq_true ⟨hj, rfl⟩
/-- The place of an id in what bytes tell. -/
def fndB (b : List UInt8) (x : Nat) : Pl := if hasN (idsB b) x = true then (plsB b)[posN (idsB b) x]! else ⟨0, 0, 0⟩
theorem fnd_made {l : List Pl} {of : Nat} (hn : l.length ≤ 600) (hok : ∀ p ∈ l, p.Ok) (hof : of < big) (h : mkE l = 0) {p : Pl} (hp : p ∈ l) :
    hasN (idsB (mkB l of)) p.id = true ∧ fndB (mkB l of) p.id = p := by
  obtain ⟨h1, h2, h3, h4⟩ := make_open hn hok hof h
  have hi : idsB (mkB l of) = idsP (srtP l) := by rw [← idsP_plsB, h4]
  obtain ⟨j, hj, e⟩ := List.getElem_of_mem ((srtP_perm l).mem_iff.2 hp)
  have hg : gt (idsP (srtP l)) j = p.id := by rw [idsP_gt _ _ hj, getElem!_pos _ j hj, e]
  have hh := has_gt (srt_ris h) (j := j) (by rw [idsP_len]; exact hj)
  rw [hg] at hh
  refine ⟨by rw [hi]; exact hh.2, ?_⟩
  unfold fndB
  rw [hi, if_pos hh.2, hh.1, h4, getElem!_pos _ j hj, e]
theorem fnd_ok (b : List UInt8) (x : Nat) : (fndB b x).Ok := by
  unfold fndB
  split
  · rename_i h
    have := (of_decide_eq_true h).1
    rw [idsB_len] at this
    rw [getElem!_pos _ _ (by rw [plsB_len]; exact this)]
    exact plsB_ok b _ (List.getElem_mem _)
  · exact ⟨Nat.pow_pos (by decide), by show (-9223372036854775808 : Int) ≤ 0; omega, by show (0 : Int) ≤ 9223372036854775807; omega, Int.le_refl _, by show (0 : Int) < 4294967296; omega⟩
/-- Find of an index that bytes told. -/
theorem IFind_b (b : List UInt8) (ho : opE b = 0) (x : Nat) (hx : x < big) (X : Nat) (A1 A2 A3 : Option Addr) (c1 c2 c3 of : Nat) (w : World)
    (h : IX w X (nB b) A1 c1 A2 c2 A3 c3 (fanR (midB b)) (keyR (midB b)) (smR (midB b) (nB b)) (atR (midB b) (nB b)) of) :
    Calls Tryd.prog 17 #[.pointer (some ⟨X, 0, none⟩), .agg (idC (dgt x))] w fun e w' => e = .returned (.tuple #[.agg (fndB b x).cells, .bool (hasN (idsB b) x)]) ∧ Fr (fun _ => False) w w' := by
  obtain ⟨h1, h2, h3, h4, h5⟩ := opE_ok ho
  obtain ⟨-, hl, hn, hw, hu⟩ := cnt_ok h1
  have hfa := find_at (n := nB b) (f := fanR (midB b)) (ks := keyR (midB b)) h3 (idsB_big b) h4 x hx
  have hb0 := b0_lt x
  have hle1 : loF (fanR (midB b)) (b0 x) ≤ fanR (midB b) (b0 x) := by rw [loF_congr h4 _ hb0, h4 _ hb0]; exact lo_le _
  have hle2 : fanR (midB b) (b0 x) ≤ nB b := by rw [h4 _ hb0]; have := fanN_le (idsB b) (b0 x); rwa [idsB_len] at this
  have hf := IFind_any X (nB b) A1 A2 A3 c1 c2 c3 (fanR (midB b)) (keyR (midB b)) (smR (midB b) (nB b)) (atR (midB b) (nB b)) of x (by omega) (fun j _ => u4_lt _ _) hx (idsB_big b) h3 hle1 hle2 w h
  have hh : fhsI (nB b) (fanR (midB b)) (keyR (midB b)) x = hasN (idsB b) x := hfa.1
  have hp : fndI (nB b) (fanR (midB b)) (keyR (midB b)) (smR (midB b) (nB b)) (atR (midB b) (nB b)) x = fndB b x := by
    unfold fhsI at hh
    unfold fndI fndB
    rw [hh]
    by_cases hc : hasN (idsB b) x = true
    · rw [if_pos hc, if_pos hc, hfa.2 hc]
      have hlt := (of_decide_eq_true hc).1
      rw [idsB_len] at hlt
      show atI (nB b) (keyR (midB b)) (smR (midB b) (nB b)) (atR (midB b) (nB b)) (posN (idsB b) x : Nat) = _
      rw [plsB_at b _ hlt]
      unfold atI
      rw [if_pos ⟨by omega, by omega⟩]
      simp
    · rw [if_neg hc, if_neg hc]
  rw [hh, hp] at hf
  exact hf
end Go.Proofs.YtgbhdjncccmabaaDoor

/- What is proved: the bytes of an index of places that rise are an index, of just these, plainly. Conditions: at most 600 places, each from 0 to 2^20, whose ids rise. -/
import Derived.Test.YtgbhdjncccmabaaDoorIxp
import Derived.Test.YtgbhdjncccmabaaDoorIxf
namespace Go.Proofs.YtgbhdjncccmabaaDoor
open Go.RowKit
set_option linter.unusedVariables false

theorem block_at {α : Type} (g : α → List UInt8) (d : Nat) (hd : ∀ a, (g a).length = d) (l : List α) : ∀ (k : Nat) (a : α) (rest : List UInt8), l[k]? = some a → ((l.flatMap g ++ rest).drop (d * k)).take d = g a := by
  induction l with
  | nil => intro k a rest h; simp at h
  | cons x l ih =>
    intro k a rest h
    rw [List.flatMap_cons, List.append_assoc]
    cases k with
    | zero =>
      have : x = a := by simpa using h
      subst this
      rw [Nat.mul_zero, List.drop_zero, List.take_append_of_le_length (by rw [hd]; exact Nat.le_refl _), List.take_of_length_le (by rw [hd]; exact Nat.le_refl _)]
    | succ k =>
      rw [show d * (k + 1) = (g x).length + d * k by rw [hd, Nat.mul_succ]; omega, List.drop_append, List.drop_of_length_le (by omega), List.nil_append, show (g x).length + d * k - (g x).length = d * k by omega]
      exact ih k a rest (by simpa using h)
theorem drop_ahead (a b : List UInt8) (m : Nat) (h : a.length = m) (k : Nat) : (a ++ b).drop (m + k) = b.drop k := by
  rw [List.drop_append, List.drop_of_length_le (by omega), List.nil_append, show m + k - a.length = k by omega]
theorem fan255 (ns : List Nat) : fanN ns 255 = ns.length := by
  unfold fanN
  rw [List.countP_eq_length]
  intro n _
  have := b0_lt n
  simp
  omega
theorem fanB_eq (ns : List Nat) : fanB ns = (List.range 256).flatMap fun c => hiB (fanN ns c : Nat) 4 4 := rfl
theorem joinI_idsP (s : List Pl) : joinI (idsP s) = s.flatMap fun p => idL p.id := by simp [joinI, idsP, List.flatMap_map]
theorem file_props (s : List Pl) (of : Nat) (hn : s.length ≤ 600) (hid : ∀ p ∈ s, p.id < big) (hsm : ∀ p ∈ s, 0 ≤ p.sm ∧ p.sm < 4294967296) (hpos : ∀ p ∈ s, 0 ≤ p.pos ∧ p.pos ≤ 1048576) (hr : ris (idsP s)) (hof : of < big) :
    nB (fileI s of) = s.length ∧ opE (fileI s of) = 0 ∧ (∀ k, k < s.length → keyR (midB (fileI s of)) k = (s[k]!).id ∧ ((smR (midB (fileI s of)) s.length k : Nat) : Int) = (s[k]!).sm ∧ ((atR (midB (fileI s of)) s.length k : Nat) : Int) = (s[k]!).pos) ∧
    ofR (midB (fileI s of)) s.length = of ∧ ∀ c, c < 256 → fanR (midB (fileI s of)) c = fanN (idsP s) c := by
  obtain ⟨n, hnd⟩ : ∃ n, s.length = n := ⟨_, rfl⟩
  have hL := fileI_len s of
  have hbl := bodyI_len s of
  have hil := idsP_len s
  rw [hnd] at hL hbl hn hil ⊢
  obtain ⟨R, hR⟩ : ∃ R, joinI (idsP s) ++ (smB s ++ (atB s ++ idL of)) = R := ⟨_, rfl⟩
  have hbody : bodyI s of = wordI ++ (fanB (idsP s) ++ R) := by rw [← hR, bodyI]; simp [List.append_assoc]
  have hfile : fileI s of = wordI ++ (fanB (idsP s) ++ (R ++ sumL (bodyI s of))) := by rw [fileI, hbody]; simp [List.append_assoc]
  have hRl : R.length = 40 * n + 32 := by rw [← hR]; simp only [List.length_append, joinI_len, smB_len, atB_len, idL_len, hil, hnd]; omega
  have hmid : midB (fileI s of) = fanB (idsP s) ++ R := by
    rw [midB, hL, hfile, show (8 : Nat) = 8 + 0 from rfl, drop_ahead wordI _ 8 wordI_len 0, List.drop_zero, ← List.append_assoc, List.take_append_of_le_length (by rw [List.length_append, fanB_len, hRl]; omega), List.take_of_length_le (by rw [List.length_append, fanB_len, hRl]; omega)]
  have hfan : ∀ (c : Nat) (rest : List UInt8), c < 256 → u4 (fanB (idsP s) ++ rest) (4 * c) = fanN (idsP s) c := fun c rest hc => by
    have h := block_at (fun c => hiB (fanN (idsP s) c : Nat) 4 4) 4 (fun a => hiB_length _ _ _) (List.range 256) c c rest (by simp [hc])
    rw [← fanB_eq] at h
    have hle := fanN_le (idsP s) c
    unfold u4
    rw [h]
    have := big_hiB (fanN (idsP s) c : Nat) (by omega) (by omega)
    omega
  have h1028 : u4 (fileI s of) 1028 = n := by
    have : u4 (fileI s of) 1028 = u4 (fanB (idsP s) ++ (R ++ sumL (bodyI s of))) (4 * 255) := by
      unfold u4
      rw [hfile, show 1028 = 8 + 4 * 255 from rfl, drop_ahead wordI _ 8 wordI_len]
    rw [this, hfan 255 _ (by decide), fan255, hil]
  have hnB : nB (fileI s of) = n := h1028
  have hw4 : (fileI s of).take 4 = [73, 78, 68, 88] := by
    rw [hfile, List.take_append_of_le_length (by rw [wordI_len]; decide)]; rfl
  have hu4 : u4 (fileI s of) 4 = 1 := by
    unfold u4
    rw [hfile, List.drop_append_of_le_length (by rw [wordI_len]; decide), List.take_append_of_le_length (by rw [List.length_drop, wordI_len]; decide)]
    decide
  have hcnt : cntR (fileI s of) = (n, 0) := by
    unfold cntR wordB
    rw [hw4, hu4, h1028, hL, if_neg (by omega), if_neg (by simp), if_neg (by omega), if_neg (by omega), if_neg (by omega)]
  have hsum : sumOk (fileI s of) = true := by
    unfold sumOk
    rw [hL, show 1096 + 40 * n - 32 = 1064 + 40 * n by omega, fileI, List.take_append_of_le_length (by omega), List.take_of_length_le (by omega), show 1064 + 40 * n = 1064 + 40 * n + 0 from rfl, drop_ahead _ _ _ hbl 0, List.drop_zero]
    simp
  have hrow : ∀ k, k < n → s[k]? = some s[k]! := fun k hk => some_pl (by rw [hnd]; exact hk)
  have hmem : ∀ k, k < n → s[k]! ∈ s := fun k hk => List.mem_of_getElem? (hrow k hk)
  have hkey : ∀ k, k < n → keyR (midB (fileI s of)) k = (s[k]!).id := fun k hk => by
    unfold keyR
    rw [hmid, drop_ahead _ _ 1024 (fanB_len _), ← hR, joinI_idsP, block_at (fun p : Pl => idL p.id) 32 (fun a => idL_len _) s k _ _ (hrow k hk), bigV_idL _ (hid _ (hmem k hk))]
  have hJl : (joinI (idsP s)).length = 32 * n := by rw [joinI_len, hil]
  have hSl : (smB s).length = 4 * n := by rw [smB_len, hnd]
  have hAl : (atB s).length = 4 * n := by rw [atB_len, hnd]
  have hsmr : ∀ k, k < n → ((smR (midB (fileI s of)) n k : Nat) : Int) = (s[k]!).sm := fun k hk => by
    unfold smR u4
    rw [hmid, show 1024 + 32 * n + 4 * k = 1024 + (32 * n + 4 * k) by omega, drop_ahead _ _ 1024 (fanB_len _), ← hR, drop_ahead _ _ (32 * n) hJl, smB, block_at (fun p : Pl => hiB p.sm 4 4) 4 (fun a => hiB_length _ _ _) s k _ _ (hrow k hk)]
    exact big_hiB _ (hsm _ (hmem k hk)).1 (hsm _ (hmem k hk)).2
  have hatr : ∀ k, k < n → ((atR (midB (fileI s of)) n k : Nat) : Int) = (s[k]!).pos := fun k hk => by
    unfold atR u4
    rw [hmid, show 1024 + 36 * n + 4 * k = 1024 + (32 * n + (4 * n + 4 * k)) by omega, drop_ahead _ _ 1024 (fanB_len _), ← hR, drop_ahead _ _ (32 * n) hJl, drop_ahead _ _ (4 * n) hSl, atB, block_at (fun p : Pl => hiB p.pos 4 4) 4 (fun a => hiB_length _ _ _) s k _ _ (hrow k hk)]
    have := hpos _ (hmem k hk)
    exact big_hiB _ this.1 (by omega)
  have hofr : ofR (midB (fileI s of)) n = of := by
    unfold ofR
    rw [hmid, show 1024 + 40 * n = 1024 + (32 * n + (4 * n + (4 * n + 0))) by omega, drop_ahead _ _ 1024 (fanB_len _), ← hR, drop_ahead _ _ (32 * n) hJl, drop_ahead _ _ (4 * n) hSl, drop_ahead _ _ (4 * n) hAl, List.drop_zero, List.take_of_length_le (by rw [idL_len]; exact Nat.le_refl _), bigV_idL of hof]
  have hfr : ∀ c, c < 256 → fanR (midB (fileI s of)) c = fanN (idsP s) c := fun c hc => by
    unfold fanR
    rw [hmid, hfan c R hc]
  have hids : idsB (fileI s of) = idsP s := by
    unfold idsB
    rw [hnB]
    apply List.ext_getElem
    · rw [keyL_len, hil]
    · intro k h1 h2
      rw [keyL_len] at h1
      have e1 : (keyL n (keyR (midB (fileI s of))))[k] = keyR (midB (fileI s of)) k := by simp [keyL]
      have e2 : (idsP s)[k] = (s[k]!).id := by simp [idsP, getElem!_pos s k (by omega)]
      rw [e1, e2, hkey k h1]
  refine ⟨hnB, ?_, fun k hk => ⟨hkey k hk, hsmr k hk, hatr k hk⟩, hofr, hfr⟩
  have hfo : fanOk (fileI s of) = true := by
    unfold fanOk
    rw [sameF_iff, hids]
    exact hfr
  have hao : atOk (fileI s of) = true := by
    unfold atOk
    rw [hnB, List.all_eq_true]
    intro k hk
    have h1 := hatr k (List.mem_range.1 hk)
    have h2 := hpos _ (hmem k (List.mem_range.1 hk))
    simp
    omega
  unfold opE
  rw [hcnt, if_neg (by simp), hsum, if_neg (by simp), hids, (risB_iff (idsP s)).2 hr, hfo, if_neg (by simp), hao, if_neg (by simp)]
end Go.Proofs.YtgbhdjncccmabaaDoor

/- What is proved: what the walks of this seat need of layers below, merged out of the texts Obh (of each just what is needed). Conditions: each theorem names its own. -/
import Derived.Test.YtnnafiajfapenaaDoorBe
import Derived.Test.YtnnafiajfapenaaDoorBm
import Derived.Test.YtnnafiajfapenaaDoorBn
import Derived.Test.YtnnafiajfapenaaDoorObb
import Derived.Test.YtnnafiajfapenaaDoorObg
/- What is proved: what stands ahead of an object's body is taken, by the program. Conditions: the bytes' cells are there. -/
namespace Go.Proofs.YtnnafiajfapenaaDoor
open Go.RowKit Go.Sort Go.Shelf
set_option linter.unusedVariables false
/-- What the beginning of bytes tells: a kind, a number, and what stands behind. -/
def headT (b : List UInt8) : Option (Int × Int × List UInt8) :=
  if idx0 (b.take 20) = -1 then none
  else if kindB (blA (nm (b.take 20))) = 0 ∨ (numW (blB (nm (b.take 20)))).2 ≠ 0 then none
  else some (kindB (blA (nm (b.take 20))), (numW (blB (nm (b.take 20)))).1, b.drop ((nm (b.take 20)).length + 1))
theorem entry_none (w : World) (A : Option Addr) (c : Nat) : (Extern.BytealgIndexByte.indexByte #[.slice A 0 c, .int .u8 0]).run Tryd.prog w = .ok (.int .i64 (-1)) w := by
  rcases A with _ | ad
  · exact Lib.run_indexByteNil _ _ _ _
  · rfl
theorem slice_hdO (A : Option Addr) (n c m : Nat) (h : m ≤ c) (w : World) : (Instr.slice 22 (.slice A n c) none (some (.int .i64 m)) none).run Tryd.prog w = .ok (.slice A m c) w := by
  have hs : (sizeOf (Tryd.prog.elem 22)).run Tryd.prog w = .ok 1 w := by kernel_rfl
  have ht : Tryd.prog.underlying 22 = some (.slice (Tryd.prog.elem 22)) := by kernel_rfl
  have e := run_slice_h (P := Tryd.prog) w 22 A n c ht .i64 (m : Int) (by omega) (by omega)
  rw [e, hs]
  have ha : ∀ ad : Addr, ad.add 0 = ad := fun ad => rfl
  rcases A with _ | ad
  · simp [sliced]
  · simp [sliced, ha]
set_option maxHeartbeats 1000000 in
set_option maxRecDepth 100000 in
theorem GbbIndexByte_all (A : Option Addr) (c : Nat) (l : List UInt8) (w : World) (h : Lies w A (bytesV l)) :
    Calls Tryd.prog 15 #[.slice A l.length c, .int .u8 0] w fun e w' => e = .returned (.int .i64 (idx0 l)) ∧ w = w' := by
  by_cases hl : l = []
  · subst hl
    have hr := Lib.hid (entry_none w A c)
    rw [show idx0 [] = -1 from rfl]
    show Calls Tryd.prog 15 #[.slice A 0 c, .int .u8 0] w _
    clear h
    go_enter Tryd.func15, Tryd.ntmps15
    go_wp2
    rw [run_callFunc_extern Tryd.func23 (by kernel_rfl) (by kernel_rfl) (by kernel_rfl) (e := Extern.BytealgIndexByte.indexByte) (by kernel_rfl), hr.out]
    simp only [Result.andThen]
    rw [Oper.upon_value]
    go_wp2
    go_ret
    exact ⟨rfl, rfl⟩
  · exact GbbIndexByte_any A (.inr (Lies.someB h (List.length_pos_iff.2 hl))) c l w h
theorem results_tmp4 {fn : Func} {t u v x : Tmp} (h : fn.results = #[.tmp t, .tmp u, .tmp v, .tmp x]) (tmps : Array Value) (P : Program) (w : World) :
    (results fn tmps).run P w = .ok (.tuple #[tmps.getD t undef, tmps.getD u undef, tmps.getD v undef, tmps.getD x undef]) w := by
  simp [results, h]
/-- How taking what stands ahead ends. -/
def HeadPost (w : World) (G : Option (Int × Int × List UInt8)) (A : Option Addr) (c n : Nat) (e : Ending) (w' : World) : Prop := match G with
  | none => e = .returned (.tuple #[.int .i64 0, .int .i64 0, .slice none 0 0, .int .i64 12]) ∧ Fr (fun _ => False) w w'
  | some (k, m, r) => (∃ A2 c2, e = .returned (.tuple #[.int .i64 k, .int .i64 m, .slice A2 r.length c2, .int .i64 0]) ∧ r.length ≤ c2 ∧ (∀ w2, Fr (fun _ => False) w w2 → Lies w2 A2 (bytesV r)) ∧ ∃ ad, A2 = some ad) ∧ Fr (fun _ => False) w w'
theorem HeadPost.no {w w' : World} {G : Option (Int × Int × List UInt8)} {A : Option Addr} {c n : Nat} {e : Ending} (h : G = none) (he : e = .returned (.tuple #[.int .i64 0, .int .i64 0, .slice none 0 0, .int .i64 12])) (f : Fr (fun _ => False) w w') : HeadPost w G A c n e w' := by
  subst h; exact ⟨he, f⟩
set_option maxHeartbeats 3200000 in
set_option maxRecDepth 100000 in
theorem ObtakeHead_any (A : Option Addr) (c : Nat) (b : List UInt8) (hcap : b.length ≤ c) (hm : b.length ≤ 9223372036854775806) (w : World) (h : Lies w A (bytesV b)) :
    Calls Tryd.prog 10 #[.slice A b.length c] w (HeadPost w (headT b) A c b.length) := by
  have hT := h.takeB 20
  have HI := Lib.hid (GbbIndexByte_all A c (b.take 20) w hT)
  have hMl : (b.take 20).length = min 20 b.length := List.length_take
  obtain ⟨M, hM⟩ : ∃ M, (b.take 20).length = M := ⟨_, rfl⟩
  have hmin : min (b.length : Int) 20 = (M : Int) := by
    rw [← hM, hMl]; omega
  have s1 := fun w => slice_hdO A b.length c M (by omega) w
  rw [hM] at HI
  have hG : headT b = headT b := rfl
  conv at hG => rhs; unfold headT
  rcases idx0_cases (b.take 20) with ⟨h1, h2, h3, h4⟩ | ⟨m, h1, h2, h3, h4, h5, h6⟩
  · rw [if_pos h1] at hG
    have HG := Lib.hid hG
    rw [h1] at HI
    obtain ⟨G, hGG⟩ : ∃ G, headT b = G := ⟨_, rfl⟩
    rw [hGG] at HG ⊢
    obtain ⟨n, hn⟩ : ∃ n, b.length = n := ⟨_, rfl⟩
    rw [hn] at hmin s1 ⊢
    clear hG hM hMl h1 h2 h3 h4 hT hGG hn h hcap hm
    go_enter Tryd.func10, Tryd.ntmps10
    go_wp2_with (go_at_call 15; refine HI.out.mono ?_; rintro e w' ⟨rfl, rfl⟩)
    (try simp only [Exit.inBlock, Exit.then])
    refine bodyPost_ret (results_tmp4 rfl _ _ _) rfl ?_
    exact HeadPost.no HG.out rfl (Fr.refl _ _)
  · have hn1 : ¬ idx0 (b.take 20) = -1 := by omega
    rw [if_neg hn1] at hG
    have hml : m < M := by omega
    have hmb : m < b.length := by omega
    have htk : (b.take 20).take m = b.take m := by rw [List.take_take]; congr 1; omega
    rw [htk] at h3
    rw [h3] at hG
    rw [h1] at HI
    have hlm : (b.take m).length = m := by rw [List.length_take]; omega
    rw [hlm] at hG
    have s2 := fun w => slice_hdO A b.length c m (by omega) w
    have s3 : ∀ w, (Instr.slice 22 (.slice A b.length c) (some (.int .i64 ((m : Int) + 1))) none none).run Tryd.prog w = .ok (.slice (tlB A c (m + 1)) (b.length - (m + 1)) (c - (m + 1))) w := fun w => slice_tlB A b.length c (m + 1) (by omega) w
    have cv := fun w (h : Lies w A (bytesV b)) => run_convert_lies 22 9 5 Tryd.underlying22 Tryd.underlying5 Tryd.underlying9 (h.takeB m) c
    rw [hlm] at cv
    have cvw := cv w h
    have HC := Lib.hid (GstrCut32_any (b.take m) (by omega) w)
    have hal : (blA (b.take m)).length ≤ m := by have := blA_len (b.take m); omega
    have hbl : (blB (b.take m)).length ≤ m := by have := blB_len (b.take m); omega
    have HK := Lib.hid (fun w => ObKind_any (blA (b.take m)) w)
    have HN := Lib.hid (fun w => VNumber_any (blB (b.take m)) (by omega) w)
    have hwr : IntKind.i64.wrap ((m : Int) + 1) = (m : Int) + 1 := by rw [IntKind.wrap_i64]; omega
    have HLr : Hid (∀ w2, Fr (fun _ => False) w w2 → Lies w2 (tlB A c (m + 1)) (bytesV (b.drop (m + 1)))) := Lib.hid (fun w2 f => (h.fr f (fun _ _ e => e)).tlB c (m + 1) hcap)
    have hdl : (b.drop (m + 1)).length = b.length - (m + 1) := List.length_drop
    have hdc : b.length - (m + 1) ≤ c - (m + 1) := by omega
    have HAs : Hid (∃ ad, tlB A c (m + 1) = some ad) := Lib.hid (by
      obtain ⟨x, y, hA⟩ := Lies.someB h (by omega)
      subst hA
      unfold Proofs.YtnnafiajfapenaaDoor.tlB
      split
      · exact ⟨_, rfl⟩
      · exact ⟨_, rfl⟩)
    have HDL := Lib.hid hdl
    obtain ⟨R, hR⟩ : ∃ R, b.drop (m + 1) = R := ⟨_, rfl⟩
    rw [hR] at hG HLr HDL
    obtain ⟨A2, hA2⟩ : ∃ A2, tlB A c (m + 1) = A2 := ⟨_, rfl⟩
    rw [hA2] at s3 HLr HAs
    obtain ⟨q, hq⟩ : ∃ q, kindB (blA (b.take m)) = q := ⟨_, rfl⟩
    rw [hq] at hG HK
    obtain ⟨x, hx⟩ : ∃ x, numW (blB (b.take m)) = x := ⟨_, rfl⟩
    rw [hx] at hG HN
    obtain ⟨x1, x2⟩ := x
    simp only [] at hG HN
    obtain ⟨S, hS⟩ : ∃ S, strB (b.take m) = S := ⟨_, rfl⟩
    rw [hS] at cvw HC
    obtain ⟨S1, hS1⟩ : ∃ S, strB (blA (b.take m)) = S := ⟨_, rfl⟩
    rw [hS1] at HC HK
    obtain ⟨S2, hS2⟩ : ∃ S, strB (blB (b.take m)) = S := ⟨_, rfl⟩
    rw [hS2] at HC HN
    obtain ⟨bo, hbo⟩ : ∃ S, has32 (b.take m) = S := ⟨_, rfl⟩
    rw [hbo] at HC
    obtain ⟨T, hT32⟩ : ∃ S, strB [32] = S := ⟨_, rfl⟩
    have hTc : ByteArray.mk #[32] = T := hT32
    rw [hT32] at HC
    obtain ⟨G, hGG⟩ : ∃ G, headT b = G := ⟨_, rfl⟩
    rw [hGG] at hG ⊢
    have HG := Lib.hid hG
    obtain ⟨n, hn⟩ : ∃ n, b.length = n := ⟨_, rfl⟩
    rw [hn] at hmin s1 s2 s3 hdc HDL ⊢
    have hmz : ¬ (m : Int) < 0 := by omega
    have hmi : (m : Int) ≤ c := by omega
    clear hG hM hMl h1 h2 h3 h4 h5 h6 hT hGG hn hR hA2 hq hx hS hS1 hS2 hbo hT32 hdl h hcap hm htk hlm cv hn1 hmb hal hbl
    by_cases hq0 : q = 0
    · have HGN : Hid (G = none) := Lib.hid (by rw [HG.out, if_pos (.inl hq0)])
      subst hq0
      go_enter Tryd.func10, Tryd.ntmps10
      go_wp2_with (first
        | (go_at_call 15; refine HI.out.mono ?_; rintro e w' ⟨rfl, rfl⟩)
        | (go_at_call 16; refine HC.out.mono ?_; rintro e w2 ⟨rfl, b2⟩; have F2 := Lib.hid (Fr.of_below (S := fun _ => False) b2); clear b2)
        | (go_at_call 17; refine (HK.out _).mono ?_; rintro e w' ⟨rfl, rfl⟩)
        | (go_at_call 18; refine (HN.out _).mono ?_; rintro e w' ⟨rfl, rfl⟩))
      (try simp only [Exit.inBlock, Exit.then])
      refine bodyPost_ret (results_tmp4 rfl _ _ _) rfl ?_
      exact HeadPost.no HGN.out rfl F2.out
    · have hqz : (q == 0) = false := by simp [hq0]
      by_cases hx0 : x2 = 0
      · subst hx0
        have HGS : Hid (G = some (q, x1, R)) := Lib.hid (by rw [HG.out, if_neg (by rintro (e | e); exact hq0 e; exact e rfl)])
        go_enter Tryd.func10, Tryd.ntmps10
        go_wp2_with (first
          | (go_at_call 15; refine HI.out.mono ?_; rintro e w' ⟨rfl, rfl⟩)
          | (go_at_call 16; refine HC.out.mono ?_; rintro e w2 ⟨rfl, b2⟩; have F2 := Lib.hid (Fr.of_below (S := fun _ => False) b2); clear b2)
          | (go_at_call 17; refine (HK.out _).mono ?_; rintro e w' ⟨rfl, rfl⟩)
          | (go_at_call 18; refine (HN.out _).mono ?_; rintro e w' ⟨rfl, rfl⟩))
        go_region
        go_wp2
        (try simp only [Exit.inBlock, Exit.then])
        refine bodyPost_ret (results_tmp4 rfl _ _ _) rfl ?_
        show HeadPost w G A c n _ _
        rw [HGS.out]
        exact ⟨⟨A2, c - (m + 1), by rw [HDL.out]; rfl, by rw [HDL.out]; exact hdc, HLr.out, HAs.out⟩, F2.out.drew⟩
      · have hxz : (x2 == 0) = false := by simp [hx0]
        have HGN : Hid (G = none) := Lib.hid (by rw [HG.out, if_pos (.inr hx0)])
        go_enter Tryd.func10, Tryd.ntmps10
        go_wp2_with (first
          | (go_at_call 15; refine HI.out.mono ?_; rintro e w' ⟨rfl, rfl⟩)
          | (go_at_call 16; refine HC.out.mono ?_; rintro e w2 ⟨rfl, b2⟩; have F2 := Lib.hid (Fr.of_below (S := fun _ => False) b2); clear b2)
          | (go_at_call 17; refine (HK.out _).mono ?_; rintro e w' ⟨rfl, rfl⟩)
          | (go_at_call 18; refine (HN.out _).mono ?_; rintro e w' ⟨rfl, rfl⟩))
        (try simp only [Exit.inBlock, Exit.then])
        refine bodyPost_ret (results_tmp4 rfl _ _ _) rfl ?_
        exact HeadPost.no HGN.out rfl F2.out
end Go.Proofs.YtnnafiajfapenaaDoor

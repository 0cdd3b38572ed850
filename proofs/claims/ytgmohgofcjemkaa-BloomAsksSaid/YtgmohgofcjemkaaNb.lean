/- What is proved: a key's places, a filter's bits, whether a filter has a key, by the document. Conditions: the cells are there. -/
import Derived.Test.YtgmohgofcjemkaaNa
import Derived.Test.YtgmohgofcjemkaaBk
namespace Go.Proofs.Ytgmohgofcjemkaa
open Go.RowKit Go.Shelf
set_option linter.unusedVariables false

/-- The i-th bit of a key with two hashes, in a filter of so many. -/
def plI (x y : Int) (many i : Nat) : Nat := ((x + (i : Int) * y) % 4294967296 % (many : Int)).toNat
theorem plI_nat (x y : Int) (many i : Nat) (h : 0 < many) : (x + (i : Int) * y) % 4294967296 % (many : Int) = (plI x y many i : Int) ∧ plI x y many i < many := by
  unfold plI
  obtain ⟨z, hz⟩ : ∃ z, (x + (i : Int) * y) % 4294967296 = z := ⟨_, rfl⟩
  rw [hz]
  have h1 : 0 ≤ z % (many : Int) := Int.emod_nonneg _ (by omega)
  have h2 : z % (many : Int) < (many : Int) := Int.emod_lt_of_pos _ (by omega)
  omega
def plT (x y : Int) (many k : Nat) : List Nat := (List.range k).map (plI x y many)
theorem plT_succ (x y : Int) (many k : Nat) : plT x y many (k + 1) = plT x y many k ++ [plI x y many k] := by
  unfold plT
  rw [List.range_succ, List.map_append, List.map_cons, List.map_nil]
theorem plT_len (x y : Int) (many k : Nat) : (plT x y many k).length = k := by simp [plT]
theorem plT_get (x y : Int) (many k i : Nat) (h : i < k) : (plT x y many k).getD i 0 = plI x y many i := by
  unfold plT
  rw [List.getD_eq_getElem?_getD, List.getElem?_map, List.getElem?_range h, Option.map_some, Option.getD_some]
/-- A key's two hashes. -/
def hsA (key : List UInt8) : Int := hashI 691726191 key
def hsB (key : List UInt8) : Int := hashI 2120511020 key
def plL (key : List UInt8) (many : Nat) : List Nat := plT (hsA key) (hsB key) many 7

set_option maxHeartbeats 3200000 in
set_option maxRecDepth 100000 in
theorem QbPlaces_any (key : List UInt8) (many : Nat) (hk : key.length ≤ 4611686018427387904) (h0 : 0 < many) (hm : many ≤ 1000000000) (w : World) :
    Calls Try.prog 24 #[.string (strB key), .int .i64 many] w fun e w' => ∃ v, e = .returned v ∧ OwnN w w' v (plL key many) := by
  obtain ⟨i0, hii, hz0, hz1, hz2⟩ := info_parts info_int
  have HA := Lib.hid (fun w => (show Calls Try.prog 9 #[.int .u32 691726191, .string (strB key)] w (fun e w' => e = .returned (.int .u32 (hsA key)) ∧ w = w') from QbHash_any 691726191 key hk w))
  have HB := Lib.hid (fun w => (show Calls Try.prog 9 #[.int .u32 2120511020, .string (strB key)] w (fun e w' => e = .returned (.int .u32 (hsB key)) ∧ w = w') from QbHash_any 2120511020 key hk w))
  have HUn : Hid (plL key many = plT (hsA key) (hsB key) many 7) := Lib.hid rfl
  obtain ⟨S, hS⟩ : ∃ S, strB key = S := ⟨_, rfl⟩
  obtain ⟨a, ha⟩ : ∃ a, hsA key = a := ⟨_, rfl⟩
  obtain ⟨b, hb⟩ : ∃ b, hsB key = b := ⟨_, rfl⟩
  rw [hS, ha] at HA
  rw [hS, hb] at HB
  rw [ha, hb] at HUn
  rw [hS, HUn.out]
  have HPz := Lib.hid (fun i => plI_nat a b many i h0)
  have HTs := Lib.hid (plT_succ a b many)
  have HTl := Lib.hid (plT_len a b many)
  have HT0 : Hid (plT a b many 0 = []) := Lib.hid rfl
  have hm0 : ¬ (many : Int) = 0 := by omega
  clear hS ha hb hk HUn
  go_enter Try.func24, Try.ntmps24
  go_upto_region 3 with (first
    | (go_at_call 9; have _ := M1; refine (HB.out _).mono ?_; rintro e w2 ⟨rfl, rfl⟩)
    | (go_at_call 9; refine (HA.out _).mono ?_; rintro e w1 ⟨rfl, rfl⟩; have M1 := True.intro))
  go_wp2
  go_loopg [5, 8] 7 (fun kx s5 s8 wr => ∃ (k : Nat) (v : Value), s8 = .int .i64 k ∧ v = s5 ∧ k ≤ 7 ∧ 7 - k ≤ kx ∧ Hid (OwnN w wr v (plT a b many k)))
  case atStart => exact ⟨0, .slice none 0 0, rfl, rfl, by omega, by omega, Lib.hid (by rw [HT0.out]; exact OwnN.nil (Fr.refl _ _))⟩
  case round =>
    obtain ⟨k, v, rfl, rfl, hk, hkx, HO⟩ := hrel
    obtain ⟨wo, rfl⟩ : ∃ wo, wo = wr := ⟨wr, rfl⟩
    have wk := wrap_nat1 k (by omega)
    by_cases hlt : k < 7
    · have hltz : (k : Int) < 7 := by omega
      have HTk := Lib.hid (HTs.out k)
      have hTl := HTl.out k
      obtain ⟨hpz, hpl⟩ := HPz.out k
      obtain ⟨x, hx⟩ : ∃ x, plI a b many k = x := ⟨_, rfl⟩
      rw [hx] at HTk hpz hpl
      obtain ⟨l, hl⟩ : ∃ l, plT a b many k = l := ⟨_, rfl⟩
      rw [hl] at HTk HO hTl
      have hk32 : (k : Int) % 4294967296 = (k : Int) := by omega
      have hmu : IntKind.u64.wrap (many : Int) = (many : Int) := by rw [IntKind.wrap_u64]; omega
      have hw64 : wrap64 (x : Int) = (x : Int) := by unfold wrap64; omega
      obtain ⟨wa, hwa⟩ : ∃ w1, wo.alloc (.cells #[.int .i64 (x : Nat)] 3) = w1 := ⟨_, rfl⟩
      have HFa := Lib.hid (show Fr (fun _ => False) wo wa from by subst hwa; exact (Fr.refl (fun _ => False) wo).alloc _)
      have HSrc := Lib.hid (show Src Try.prog 1 41 (.slice (some ⟨wo.heap.size, 0, none⟩) 1 1) 1 (nC [x]) wa from by subst hwa; exact src_one Try.underlying41 wo _ rfl)
      have HBase := Lib.hid (show w.heap.size ≤ wa.heap.size from (HO.out.fr HFa.out).2.size)
      clear hx hl hpl
      go_wp2_with (at_builtin; refine wpList_append_row _ rfl (.tmp 17) (.tmp 29) 41 41 rfl w.heap.size 3 i0 (.int .i64 0) 1 8 Try.underlying41 hii hz0 hz1 hz2 rfl v l.length (nC l) rfl (HO.out.fr HFa.out).1 (.slice (some ⟨wo.heap.size, 0, none⟩) 1 1) 1 (nC [x]) rfl HSrc.out (by unfold maxLen; omega) (by omega) HBase.out ?_
                   intro v' w4 o1 g1 at1
                   have HO4 := Lib.hid ((HO.out.fr HFa.out).grow o1 g1)
                   clear o1 g1 at1)
      go_roundg (7 - (k + 1))
      case measure => omega
      case rel => exact ⟨k + 1, v', by go_num, rfl, by omega, Nat.le_refl _, Lib.hid (by rw [HTk.out]; exact HO4.out)⟩
    · obtain rfl : k = 7 := by omega
      go_wp2
      go_ret
      exact ⟨v, rfl, HO.out⟩
end Go.Proofs.Ytgmohgofcjemkaa

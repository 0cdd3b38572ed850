/- What is proved: a filter made, by the program. Conditions: the list's cells are there; at most two thousand keys. -/
import Derived.Test.YtgmohgofcjemkaaDoorNq
import Derived.Test.YtgmohgofcjemkaaDoorNr
import Derived.Test.YtgmohgofcjemkaaDoorNs
namespace Go.Proofs.YtgmohgofcjemkaaDoor
open Go.RowKit Go.Sort Go.Shelf Go.Maps
set_option linter.unusedVariables false

theorem SetAt.len {w : World} {B : Nat} {l : List (List UInt8)} (h : SetAt w B l) : ∃ n D, w.ownsMap Tryd.prog 9 (unitElem (H := Unit)) B n D ∧ Maps.size D = (unl l).length := by
  obtain ⟨D, hown, hm⟩ := h
  refine ⟨_, D, hown, ?_⟩
  obtain ⟨es, he, _⟩ := hown.entries lawS
  rw [← size_keys ⟨es, he⟩]
  exact (SetAt.perm hown hm).length_eq.symm
/-- A list of texts in memory, whole. -/
def RowS (W : World) (A : Option Addr) (L : List (List UInt8)) : Prop :=
  L = [] ∨ ∃ b cur, A = some ⟨b, 0, none⟩ ∧ Whole W b 9 cur ∧ ∀ j, j < L.length → cur[j]? = some (.string (strB (L.getD j [])))
theorem RowS.fr {W W' : World} {A : Option Addr} {L : List (List UInt8)} {S : Nat → Prop} (h : RowS W A L) (f : Fr S W W') (hn : ∀ b cur, Whole W b 9 cur → ¬ S b) : RowS W' A L := by
  rcases h with h | ⟨b, cur, h1, h2, h3⟩
  · exact .inl h
  · exact .inr ⟨b, cur, h1, h2.fr f (hn b cur h2), h3⟩
theorem OwnS.row {w0 w : World} {v : Value} {L : List (List UInt8)} (h : OwnS w0 w v L) : ∃ A c, v = .slice A L.length c ∧ RowS w A L := by
  rcases h.1.2 with ⟨h1, h2⟩ | ⟨g, cap, cur, h1, h2, h3, h4, h5, h6, h7⟩
  · exact ⟨none, 0, by rw [h1, h2], .inl (List.eq_nil_of_length_eq_zero h2)⟩
  · refine ⟨_, _, h1, .inr ⟨g, cur, rfl, h3, fun j hj => ?_⟩⟩
    have := strM_get L j hj
    rw [← h7, Nat.mul_one, List.getElem?_take_of_lt hj, Array.getElem?_toList] at this
    exact this
/-- Between two rounds of Make. -/
structure MkS (w W : World) (gF bf : Nat) (A : Option Addr) (L : List (List UInt8)) (M : Nat) (fl : List UInt8) (rs : List Nat) : Prop where
  fr : Fr (fun _ => False) w W
  wf : Whole W gF 5 (bytesV fl).toArray
  wb : Whole W bf 27 #[.slice (some ⟨gF, 0, none⟩) M M]
  row : RowS W A L
  nd : rs.Nodup
  mr : ∀ r ∈ rs, w.heap.size ≤ r ∧ W.heap[r]? = some (.deferred (some []))
  lo : w.heap.size ≤ gF
  ln : fl.length = M
theorem MkS.keep {w W W' : World} {gF bf : Nat} {A : Option Addr} {L : List (List UInt8)} {M : Nat} {fl : List UInt8} {rs : List Nat} {T : Nat → Prop} (h : MkS w W gF bf A L M fl rs) (q : Fr T W W')
    (h0 : ∀ i, i < w.heap.size → ¬ T i) (h1 : ∀ b t cs, Whole W b t cs → ¬ T b) (h2 : ∀ r, W.heap[r]? = some (.deferred (some [])) → ¬ T r) : MkS w W' gF bf A L M fl rs :=
  ⟨h.fr.trans q (fun i hi e => (h0 i hi e).elim), h.wf.fr q (h1 _ _ _ h.wf), h.wb.fr q (h1 _ _ _ h.wb), h.row.fr q (fun b cur hb => h1 _ _ _ hb), h.nd, fun r hr => ⟨(h.mr r hr).1, (q.block r (Array.getElem?_eq_some_iff.1 (h.mr r hr).2).1 (h2 r (h.mr r hr).2)).trans (h.mr r hr).2⟩, h.lo, h.ln⟩
theorem MkS.keep0 {w W W' : World} {gF bf : Nat} {A : Option Addr} {L : List (List UInt8)} {M : Nat} {fl : List UInt8} {rs : List Nat} (h : MkS w W gF bf A L M fl rs) (q : Fr (fun _ => False) W W') : MkS w W' gF bf A L M fl rs :=
  h.keep q (fun _ _ e => e) (fun _ _ _ _ e => e) (fun _ _ e => e)
theorem bytesV_set (fl : List UInt8) (i : Nat) (b : UInt8) : (bytesV fl).toArray.setIfInBounds i (.int .u8 (b.toNat : Nat)) = (bytesV (fl.set i b)).toArray := by
  apply Array.toList_inj.1
  simp [bytesV, List.map_set, byteV]
/-- One bit is stored. -/
theorem MkS.bit {w W : World} {gF bf : Nat} {A : Option Addr} {L : List (List UInt8)} {M : Nat} {fl : List UInt8} {rs : List Nat} (h : MkS w W gF bf A L M fl rs) (n : Nat) (hn : n < 8 * M) (y : Int)
    (hy : y = (((fl.getD (n / 8) 0).toNat ||| 2 ^ (n % 8) : Nat) : Int)) : MkS w (W.setCell ⟨gF, n / 8, none⟩ (.int .u8 y)) gF bf A L M (setB fl n) rs := by
  have hst : Fr (fun j => j = gF) W (W.setCell ⟨gF, n / 8, none⟩ (.int .u8 y)) := Fr.setCell (S := fun j => j = gF) (p := ⟨gF, n / 8, none⟩) (Fr.refl _ W) (fun _ => rfl) _
  refine ⟨h.fr.trans hst (fun i hi e => by have := h.lo; omega), ?_, h.wb.fr hst (fun e => h.wb.apartN h.wf (by decide) e), h.row.fr hst (fun b cur hb e => hb.apartN h.wf (by decide) e), h.nd, fun r hr => ⟨(h.mr r hr).1, ?_⟩, h.lo, by rw [setB_len]; exact h.ln⟩
  · have h1 := h.wf.set (n / 8) (.int .u8 y)
    have hor := or_lt256 (fl.getD (n / 8) 0).toNat (n % 8) (fl.getD (n / 8) 0).toNat_lt (by omega)
    have e : y = ((UInt8.ofNat ((fl.getD (n / 8) 0).toNat ||| 2 ^ (n % 8))).toNat : Nat) := by rw [hy, UInt8.toNat_ofNat_of_lt' (by simpa [UInt8.size] using hor)]
    rw [e] at h1 ⊢
    rw [bytesV_set] at h1
    exact h1
  · exact (hst.block r (Array.getElem?_eq_some_iff.1 (h.mr r hr).2).1 (fun e => h.wf.notDef ⟨_, (h.mr r hr).2⟩ e.symm)).trans (h.mr r hr).2
end Go.Proofs.YtgmohgofcjemkaaDoor

/- What is proved: what the bound on a graph's bulk gives: how many nodes it has. Conditions: none. -/
import Derived.Test.YtpaigmmpihcdaaaJx
namespace Go.Proofs.Ytpaigmmpihcdaaa
open Go.ChangeShapes Go.WideShapes Go.ChangeAt Go.RowKit Go.Deep
set_option linter.unusedVariables false

theorem open_nodes2 {H : Type} {enc : TypeId × Value → H} {w : World} {base : Nat} {held : Bool} {fuel : Nat} {cs : List Value} {x : DataW H × List MemPlace}
    (h : DataW.trod enc Try.prog w base (fun _ => true) held fuel 22 cs = some x) : ∃ A c G, cs = [.slice A (List.length G) c] ∧ GAt w A G ∧ (G.length = 0 ∨ ∃ es sp, x.1 = .slice es sp ∧ es.length = G.length) := by
  obtain ⟨A, c, G, h1, h2⟩ := open_nodes h
  refine ⟨A, c, G, h1, h2, ?_⟩
  rcases open_slice Try.underlying22 h with ⟨hcs, hx⟩ | ⟨a, len, cap, mm, n, D, Pl, hcs, hb, hl', hm, hmm, hx, hi⟩
  · rw [h1] at hcs
    injection hcs with hcs _
    injection hcs with _ e _
    exact .inl e
  · rw [h1] at hcs
    injection hcs with hcs _
    injection hcs with _ e _
    exact .inr ⟨_, _, by rw [hx], by rw [List.length_map, List.length_range, e]⟩
theorem bulk_pos {H : Type} (d : DataW H) : 1 ≤ Rows.uptoBulk d := by
  cases d with
  | lit x => cases x <;> simp [Rows.uptoBulk]
  | nil => simp [Rows.uptoBulk]
  | ptr d => simp [Rows.uptoBulk]
  | slice es sp => simp [Rows.uptoBulk]
  | agg ps => simp [Rows.uptoBulk]
  | iface t d => simp [Rows.uptoBulk]
  | map es => simp [Rows.uptoBulk]
  | held x => simp [Rows.uptoBulk]
theorem bulk_len {H : Type} : ∀ (es : List (DataW H)), es.length ≤ Rows.uptoBulkAll es
  | [] => Nat.zero_le _
  | d :: es => by
    have := bulk_len es
    have := bulk_pos d
    rw [Rows.uptoBulkAll, List.length_cons]
    omega
theorem upto_nodes {H : Type} {d : DataW H} {r : List (DataW H)} {n : Nat} (hk : Rows.uptoSmall H (d :: r) = true) (h : n = 0 ∨ ∃ es sp, d = .slice es sp ∧ es.length = n) : n ≤ 2000000 := by
  have hb : Rows.uptoBulkAll (d :: r) ≤ 1048576 := of_decide_eq_true hk
  rcases h with h | ⟨es, sp, rfl, h⟩
  · omega
  · have := bulk_len es
    rw [Rows.uptoBulkAll, Rows.uptoBulk] at hb
    omega
end Go.Proofs.Ytpaigmmpihcdaaa

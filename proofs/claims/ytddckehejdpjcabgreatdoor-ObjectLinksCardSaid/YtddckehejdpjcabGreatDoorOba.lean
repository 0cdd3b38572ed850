/- What is proved: what the walks of this seat need of layers below, merged out of the texts Oba (of each just what is needed). Conditions: each theorem names its own. -/
import Derived.Test.YtddckehejdpjcabGreatDoorBd
/- What is proved: the words of the kinds, by the program and by the document. Conditions: none. -/
namespace Go.Proofs.YtddckehejdpjcabGreatDoor
open Go.RowKit
set_option linter.unusedVariables false
/-- A kind's word. -/
def kwordB (k : Int) : List UInt8 := if k = 1 then [98, 108, 111, 98] else if k = 2 then [116, 114, 101, 101] else if k = 3 then [99, 111, 109, 109, 105, 116] else if k = 4 then [116, 97, 103] else []
theorem wordB_none {k : Int} (h : k < 1 ∨ 4 < k) : kwordB k = [] := by
  rw [kwordB, if_neg (by omega), if_neg (by omega), if_neg (by omega), if_neg (by omega)]
theorem kind_cases (k : Int) : k = 1 ∨ k = 2 ∨ k = 3 ∨ k = 4 ∨ ((k < 1 ∨ 4 < k) ∧ (k == 1) = false ∧ (k == 2) = false ∧ (k == 3) = false ∧ (k == 4) = false) := by
  by_cases h : k < 1 ∨ 4 < k
  · exact .inr (.inr (.inr (.inr ⟨h, by simp; omega, by simp; omega, by simp; omega, by simp; omega⟩)))
  · omega
theorem wordB_len (k : Int) : (kwordB k).length ≤ 6 := by
  rcases kind_cases k with rfl | rfl | rfl | rfl | ⟨h, _⟩
  · decide
  · decide
  · decide
  · decide
  · rw [wordB_none h]; decide
set_option maxHeartbeats 1600000 in
set_option maxRecDepth 100000 in
theorem ObWord_any (k : Int) (w : World) : Calls Tryz.prog 16 #[.int .i64 k] w fun e w' => e = .returned (.string (strB (kwordB k))) ∧ w = w' := by
  rcases kind_cases k with rfl | rfl | rfl | rfl | ⟨h, h1, h2, h3, h4⟩
  · go_enter Tryz.func16, Tryz.ntmps16
    go_wp2
    go_ret
    exact ⟨rfl, rfl⟩
  · go_enter Tryz.func16, Tryz.ntmps16
    go_wp2
    go_ret
    exact ⟨rfl, rfl⟩
  · go_enter Tryz.func16, Tryz.ntmps16
    go_wp2
    go_ret
    exact ⟨rfl, rfl⟩
  · go_enter Tryz.func16, Tryz.ntmps16
    go_wp2
    go_ret
    exact ⟨rfl, rfl⟩
  · rw [wordB_none h]
    go_enter Tryz.func16, Tryz.ntmps16
    go_wp2
    go_ret
    exact ⟨rfl, rfl⟩
end Go.Proofs.YtddckehejdpjcabGreatDoor

/- The contract of lex.sign. -/
import Derived.Test.YtfcnbiikjopajaaDoorSignP
namespace Go.Proofs.YtfcnbiikjopajaaDoor
open Go.RowKit
theorem sign_tab (k : Nat) (h : k < 22) : signTab[k]? = some (.string ⟨(signAll[k]'h).toArray⟩) := by
  have : ∀ k : Fin 22, signTab[k.val]? = some (.string ⟨(signAll[k.val]'k.isLt).toArray⟩) := by
    intro k
    obtain ⟨k, h⟩ := k
    have : k = 0 ∨ k = 1 ∨ k = 2 ∨ k = 3 ∨ k = 4 ∨ k = 5 ∨ k = 6 ∨ k = 7 ∨ k = 8 ∨ k = 9 ∨ k = 10 ∨ k = 11 ∨ k = 12 ∨ k = 13 ∨ k = 14 ∨ k = 15 ∨ k = 16 ∨ k = 17 ∨ k = 18 ∨ k = 19 ∨ k = 20 ∨ k = 21 := by omega
    rcases this with rfl | rfl | rfl | rfl | rfl | rfl | rfl | rfl | rfl | rfl | rfl | rfl | rfl | rfl | rfl | rfl | rfl | rfl | rfl | rfl | rfl | rfl <;> rfl
  exact this ⟨k, h⟩
end Go.Proofs.YtfcnbiikjopajaaDoor

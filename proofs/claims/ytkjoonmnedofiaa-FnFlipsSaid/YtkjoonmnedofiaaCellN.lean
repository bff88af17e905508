/- Neighbors: the program's function and the model's say the same of every two cells. -/
import Derived.Test.YtkjoonmnedofiaaCellF
namespace Go.Proofs.Ytkjoonmnedofiaa.CellN
set_option linter.unusedVariables false
open Go.RowKit Go.Proofs.Ytkjoonmnedofiaa.Base Go.Proofs.Ytkjoonmnedofiaa.Cell Go.Proofs.Ytkjoonmnedofiaa.CellF Go.Joins

theorem sAreNeighbors_sq {x y u v : Int} : ((x - u) * (x - u) + (y - v) * (y - v) = 1) ↔ ((x = u ∧ (y = v + 1 ∨ v = y + 1)) ∨ (y = v ∧ (x = u + 1 ∨ u = x + 1))) := by
  constructor
  · intro h
    exact sq_one h
  · have key : ∀ p q : Int, (p = 0 ∧ (q = 1 ∨ q = -1)) ∨ (q = 0 ∧ (p = 1 ∨ p = -1)) → p * p + q * q = 1 := by
      rintro p q (⟨rfl, rfl | rfl⟩ | ⟨rfl, rfl | rfl⟩) <;> rfl
    intro h
    exact key _ _ (by omega)

theorem iAreNeighbors_sq {x y u v : Int} : ((u - x) * (u - x) + (v - y) * (v - y) = 1) ↔ ((x = u ∧ (y = v + 1 ∨ v = y + 1)) ∨ (y = v ∧ (x = u + 1 ∨ u = x + 1))) := by
  constructor
  · intro h
    have := sq_one h; omega
  · have key : ∀ p q : Int, (p = 0 ∧ (q = 1 ∨ q = -1)) ∨ (q = 0 ∧ (p = 1 ∨ p = -1)) → p * p + q * q = 1 := by
      rintro p q (⟨rfl, rfl | rfl⟩ | ⟨rfl, rfl | rfl⟩) <;> rfl
    intro h
    exact key _ _ (by omega)

end Go.Proofs.Ytkjoonmnedofiaa.CellN

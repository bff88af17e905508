/- Dominoes: the order of two dominoes, and the domino over two cells: the program's functions and the model's, of every argument. -/
import Derived.Test.YtgkgdgchkhdgjaaDoorDomG
namespace Go.Proofs.YtgkgdgchkhdgjaaDoor.Dom
set_option linter.unusedVariables false
set_option linter.unusedSimpArgs false
open Go.RowKit Go.Proofs.YtgkgdgchkhdgjaaDoor.Base Go.Proofs.YtgkgdgchkhdgjaaDoor.Cell Go.Proofs.YtgkgdgchkhdgjaaDoor.CellF Go.Proofs.YtgkgdgchkhdgjaaDoor.CellN Go.Joins

/-- the one of two valid dominoes comes first. -/
def befP (x y : Int) (b : Bool) (u v : Int) (c : Bool) : Bool := decide (y * 8 + x < v * 8 + u ∨ (y * 8 + x = v * 8 + u ∧ b = false ∧ c = true))
theorem befP_iff {x y : Int} {b : Bool} {u v : Int} {c : Bool} : befP x y b u v c = true ↔ (y * 8 + x < v * 8 + u ∨ (y * 8 + x = v * 8 + u ∧ b = false ∧ c = true)) := by unfold befP; simp
def befB (x y : Int) (b : Bool) (u v : Int) (c : Bool) : Bool := domB x y b && domB u v c && befP x y b u v c
theorem dom_ok {x y : Int} {b : Bool} (h : domB x y b = true) : Ok x y := by
  unfold domB at h
  simp only [Bool.and_eq_true] at h
  exact okB_iff.1 h.1
theorem index_of {x y : Int} (h : Ok x y) : indexN x y = y * 8 + x := by unfold indexN; simp [h]

end Go.Proofs.YtgkgdgchkhdgjaaDoor.Dom

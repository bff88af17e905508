/- The laws' own copies and comparisons of dominoes; the laws of one domino: FnExactDominoOk and FnExactCellsUnder return true of every argument. -/
import Derived.Test.YtkjoonmnedofiaaDomO
namespace Go.Proofs.Ytkjoonmnedofiaa.Dom
set_option linter.unusedVariables false
set_option linter.unusedSimpArgs false
open Go.RowKit Go.Proofs.Ytkjoonmnedofiaa.Base Go.Proofs.Ytkjoonmnedofiaa.Cell Go.Proofs.Ytkjoonmnedofiaa.CellF Go.Proofs.Ytkjoonmnedofiaa.CellN Go.Joins

/-- the law says yes, and makes memory at most. -/
def Yes (w : World) (e : Ending) (w' : World) : Prop := e = .returned (.bool true) ∧ Below w.heap.size w w'

set_option maxHeartbeats 400000 in
theorem toDomino (x y : Int) (b : Bool) (w : World) :
    Calls Try.prog 50 #[.agg #[.int .i64 x, .int .i64 y, .bool b]] w (Do x y b w) := by
  go_enter Try.func50, Try.ntmps50
  go_wp2
  exact bodyPost_ret (v := .agg #[.int .i64 x, .int .i64 y, .bool b]) (by simp [results, Try.results50, go_sem]) rfl ⟨rfl, below_alloc3 _ _ _ _⟩

/-- two dominoes are the same, as a bool. -/
def eqD (x y : Int) (b : Bool) (u v : Int) (c : Bool) : Bool := decide (x = u ∧ y = v ∧ b = c)
theorem eqD_iff {x y : Int} {b : Bool} {u v : Int} {c : Bool} : eqD x y b u v c = true ↔ x = u ∧ y = v ∧ b = c := by unfold eqD; simp

set_option maxHeartbeats 400000 in
theorem eqDominoSame (x y : Int) (b : Bool) (w : World) :
    Calls Try.prog 51 #[.agg #[.int .i64 x, .int .i64 y, .bool b], .agg #[.int .i64 x, .int .i64 y, .bool b]] w (Bol true w) := by
  have e1 : (x != x) = false := by simp
  have e2 : (y != y) = false := by simp
  have e3 : (b != b) = false := by simp
  go_enter Try.func51, Try.ntmps51
  go_wp2
  go_ret
  exact mkBol rfl (below_alloc2 _ _ _)
theorem eqCellSame (x y : Int) (w : World) :
    Calls Try.prog 54 #[.agg #[.int .i64 x, .int .i64 y], .agg #[.int .i64 x, .int .i64 y]] w (Bol true w) := by
  have := eqCell x y x y w
  rwa [show eqB x y x y = true from eqB_iff.2 ⟨rfl, rfl⟩] at this

end Go.Proofs.Ytkjoonmnedofiaa.Dom

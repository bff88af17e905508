/- Two dominoes that differ are not equal, as the model compares structs. -/
import Derived.Test.YtgoljloklhencaaDoorDomP
namespace Go.Proofs.YtgoljloklhencaaDoor.Dom
set_option linter.unusedVariables false
set_option linter.unusedSimpArgs false
open Go.RowKit Go.Proofs.YtgoljloklhencaaDoor.Base Go.Proofs.YtgoljloklhencaaDoor.Cell

set_option maxHeartbeats 1000000 in
theorem eqD_run {x y : Int} {b : Bool} {u v : Int} {c : Bool} (hne : ¬ (x = u ∧ y = v ∧ b = c)) (a : Act) (o : Oper) (t1 t2 : Operand) (w' : World)
    (ho : o.op = .binOp .eql 25 t1 t2 25) (h1 : a.eval t1 = .agg #[.int .i64 x, .int .i64 y, .bool b]) (h2 : a.eval t2 = .agg #[.int .i64 u, .int .i64 v, .bool c]) :
    (execOp a.eval o).run Tryd.prog w' = .ok (.value (.bool false)) w' := by
  unfold execOp
  rw [ho]
  simp only [h1, h2]
  by_cases hxu : x = u
  · subst hxu
    by_cases hyv : y = v
    · subst hyv
      cases b <;> cases c
      · exact absurd ⟨rfl, rfl, rfl⟩ hne
      · clear hne ho h1 h2; go_simp
      · clear hne ho h1 h2; go_simp
      · exact absurd ⟨rfl, rfl, rfl⟩ hne
    · clear hne ho h1 h2; go_simp
  · clear hne ho h1 h2; go_simp
end Go.Proofs.YtgoljloklhencaaDoor.Dom

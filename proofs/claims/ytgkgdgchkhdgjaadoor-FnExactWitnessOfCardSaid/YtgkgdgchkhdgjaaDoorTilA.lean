/- DominoAt: the program's function and the model's find the same first domino over a cell in every list. -/
import Derived.Test.YtgkgdgchkhdgjaaDoorTilP
import Derived.Test.YtgkgdgchkhdgjaaDoorDomF
import Derived.Test.YtgkgdgchkhdgjaaDoorDomG
namespace Go.Proofs.YtgkgdgchkhdgjaaDoor.Til
set_option linter.unusedVariables false
set_option linter.unusedSimpArgs false
open Go.RowKit Go.Proofs.YtgkgdgchkhdgjaaDoor.Base Go.Proofs.YtgkgdgchkhdgjaaDoor.Pure Go.Proofs.YtgkgdgchkhdgjaaDoor.Cell Go.Proofs.YtgkgdgchkhdgjaaDoor.Dom Go.Proofs.YtgkgdgchkhdgjaaDoor.Dms Go.Joins

/-- the box of a cell, in a world behind its making. -/
def Bc (w : World) (x y : Int) (W : World) : Prop := Below w.heap.size w W ∧ At2 W w.heap.size x y
theorem bc_start (x y : Int) (w : World) : Bc w x y (w.alloc (.cells #[.int .i64 x, .int .i64 y] 33)) := ⟨below_alloc1 w _, At2.new w x y⟩
theorem Bc.on {w W W' : World} {x y : Int} (h : Bc w x y W) (hb : Below W.heap.size W W') : Bc w x y W' := ⟨h.1.trans (hb.mono h.1.size), h.2.on hb⟩
theorem Bc.drew {w W : World} {x y : Int} (h : Bc w x y W) : Bc w x y W.drew := ⟨h.1.drew, h.2⟩
/-- none of the first k dominoes covers the cell. -/
def Miss (L : List Dm) (x y : Int) (k : Nat) : Prop := ∀ j e, j < k → L[j]? = some e → covM e x y = false
theorem Miss.zero (L : List Dm) (x y : Int) : Miss L x y 0 := fun j e h => by omega
theorem Miss.succ {L : List Dm} {x y : Int} {k : Nat} (h : Miss L x y k) {d : Dm} (hd : L[k]? = some d) (hc : covM d x y = false) : Miss L x y (k + 1) := by
  intro j e hj he
  by_cases hjk : j = k
  · subst hjk; rw [hd] at he; injection he with he; subst he; exact hc
  · exact h j e (by omega) he
theorem Miss.hit {L : List Dm} {x y : Int} {k : Nat} (h : Miss L x y k) {d : Dm} (hd : L[k]? = some d) (hc : covM d x y = true) : atI L x y = (k : Int) := atI_hit h hd hc
theorem Miss.all {L : List Dm} {x y : Int} (h : Miss L x y L.length) : atI L x y = -1 := atI_miss h

end Go.Proofs.YtgkgdgchkhdgjaaDoor.Til

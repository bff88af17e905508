/- IsPartial, the program's. -/
import Derived.Test.YtmaghekcpopepaaDoorMgUnc
import Derived.Test.YtmaghekcpopepaaDoorMgCls
namespace Go.Proofs.YtmaghekcpopepaaDoor.Til
set_option linter.unusedVariables false
set_option linter.unusedSimpArgs false
open Go.RowKit Go.Proofs.YtmaghekcpopepaaDoor.Base Go.Proofs.YtmaghekcpopepaaDoor.Pure Go.Proofs.YtmaghekcpopepaaDoor.Cell Go.Proofs.YtmaghekcpopepaaDoor.Cels Go.Proofs.YtmaghekcpopepaaDoor.Dom Go.Proofs.YtmaghekcpopepaaDoor.Dms Go.Joins
open Go.Proofs.YtmaghekcpopepaaDoor.Reg hiding Yes add_none RC rc_start

/-- the first k dominoes may follow. -/
def Go1 (xs : List Int) (L : List Dm) (k : Nat) : Prop := ∀ j, j < k → stpAt xs L j = true
theorem Go1.zero (xs : List Int) (L : List Dm) : Go1 xs L 0 := fun j h => by omega
theorem Go1.succ {xs : List Int} {L : List Dm} {k : Nat} (h : Go1 xs L k) (hs : stpAt xs L k = true) : Go1 xs L (k + 1) := by
  intro j hj
  by_cases e : j = k
  · subst e; exact hs
  · exact h j (by omega)
/-- a region's box. -/
def R1 (w : World) (v : Value) (W : World) : Prop := Below w.heap.size w W ∧ Rg W w.heap.size v
theorem r1_start (w : World) (v : Value) : R1 w v (w.alloc (.cells #[v] 26)) := ⟨below_alloc1 w _, Rg.new w v⟩
theorem R1.on {w W W' : World} {v : Value} (h : R1 w v W) (hb : Below W.heap.size W W') : R1 w v W' := ⟨h.1.trans (hb.mono h.1.size), h.2.on hb⟩
theorem R1.drew {w W : World} {v : Value} (h : R1 w v W) : R1 w v W.drew := ⟨h.1.drew, h.2⟩

end Go.Proofs.YtmaghekcpopepaaDoor.Til

/- SortDominoes, the program's: the valid ones are copied, sorted, and cut to those that differ. -/
import Derived.Test.YtgkgdgchkhdgjaaDoorSrtC
import Derived.Test.YtgkgdgchkhdgjaaDoorCmpI
namespace Go.Proofs.YtgkgdgchkhdgjaaDoor.Til
set_option linter.unusedVariables false
set_option linter.unusedSimpArgs false
open Go.RowKit Go.Proofs.YtgkgdgchkhdgjaaDoor.Base Go.Proofs.YtgkgdgchkhdgjaaDoor.Pure Go.Proofs.YtgkgdgchkhdgjaaDoor.Cell Go.Proofs.YtgkgdgchkhdgjaaDoor.Dom Go.Proofs.YtgkgdgchkhdgjaaDoor.Dms Go.Joins
open Go.Proofs.YtgkgdgchkhdgjaaDoor.Reg hiding Yes add_none

/-- the valid ones among the first j. -/
def vld (L : List Dm) (j : Nat) : List Dm := (L.take j).filter okM
theorem vld_yes {L : List Dm} {j : Nat} (hj : j < L.length) (h : okM L[j] = true) : vld L (j + 1) = vld L j ++ [L[j]] := by
  unfold vld; rw [List.take_succ_eq_append_getElem hj, List.filter_append]; simp [h]
theorem vld_no {L : List Dm} {j : Nat} (hj : j < L.length) (h : okM L[j] = false) : vld L (j + 1) = vld L j := by
  unfold vld; rw [List.take_succ_eq_append_getElem hj, List.filter_append]; simp [h]
theorem vld_length (L : List Dm) (j : Nat) : (vld L j).length ≤ j := by
  unfold vld; exact Nat.le_trans (List.length_filter_le _ _) (by rw [List.length_take]; omega)

end Go.Proofs.YtgkgdgchkhdgjaaDoor.Til

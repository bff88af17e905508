/- What the laws do with slices of dominoes: one is copied, two are compared, numbers are written into one and read again. -/
import Derived.Test.YtgkgdgchkhdgjaaDoorDmM
import Derived.Test.YtgkgdgchkhdgjaaDoorRegL
import Derived.Test.YtgkgdgchkhdgjaaDoorRegF
import Derived.Test.YtgkgdgchkhdgjaaDoorTilP
import Derived.Laws.OwnMore
import Derived.Deep.RegionHeld3
namespace Go.Proofs.YtgkgdgchkhdgjaaDoor.Til
set_option linter.unusedVariables false
set_option linter.unusedSimpArgs false
open Go.RowKit Go.Proofs.YtgkgdgchkhdgjaaDoor.Base Go.Proofs.YtgkgdgchkhdgjaaDoor.Pure Go.Proofs.YtgkgdgchkhdgjaaDoor.Cell Go.Proofs.YtgkgdgchkhdgjaaDoor.Dom Go.Proofs.YtgkgdgchkhdgjaaDoor.Dms Go.Joins
open Go.Proofs.YtgkgdgchkhdgjaaDoor.Reg hiding Yes add_none

theorem domInfo : (Tryd.prog.info? 121).map (fun i => (i.zero, i.size, i.bytes)) = some (some (.agg #[.int .i64 0, .int .i64 0, .bool false]), 3, 24) := by kernel_rfl
theorem made3 (n : Nat) : (madeCells #[.int .i64 0, .int .i64 0, .bool false] (n * 3)).toList = rowM (List.replicate n (0, 0, false)) := by
  apply List.ext_getElem?
  intro j
  by_cases hj : j < n * 3
  · have h := rowM_at (List.replicate n (0, 0, false)) (j / 3) (0, 0, false) (by rw [List.getElem?_replicate]; simp; omega)
    obtain ⟨h0, h1, h2⟩ := h
    simp only [madeCells, Array.toList_map, Array.toList_range, List.getElem?_map, List.getElem?_range hj, Option.map_some]
    have hc : j = j / 3 * 3 ∨ j = j / 3 * 3 + 1 ∨ j = j / 3 * 3 + 2 := by omega
    rcases hc with e | e | e
    · rw [show j % (#[Value.int .i64 0, .int .i64 0, .bool false] : Array Value).size = 0 by show j % 3 = 0; omega]
      rw [← e] at h0; rw [h0]; rfl
    · rw [show j % (#[Value.int .i64 0, .int .i64 0, .bool false] : Array Value).size = 1 by show j % 3 = 1; omega]
      rw [← e] at h1; rw [h1]; rfl
    · rw [show j % (#[Value.int .i64 0, .int .i64 0, .bool false] : Array Value).size = 2 by show j % 3 = 2; omega]
      rw [← e] at h2; rw [h2]; rfl
  · rw [List.getElem?_eq_none (by simp [madeCells]; omega), List.getElem?_eq_none (by rw [rowM_length, List.length_replicate]; omega)]

/-- dominoes in memory of the call's own. -/
def DmPost (L : List Dm) (n : Nat) (w : World) (e : Ending) (w' : World) : Prop :=
  ∃ A cap, e = .returned (.slice A n cap) ∧ n ≤ cap ∧ w'.ownsRow w.heap.size 121 3 (.slice A n cap) n (rowM L) ∧ Below w.heap.size w w'
theorem dm_step (L M : List Dm) (n k : Nat) (hx : L.length = n) (hk : k < n) :
    (((rowM (L.take k ++ List.replicate (n - k) (0, 0, false))).set (k * 3) (.int .i64 L[k].1)).set (k * 3 + 1) (.int .i64 L[k].2.1)).set (k * 3 + 2) (.bool L[k].2.2) = rowM (L.take (k + 1) ++ List.replicate (n - (k + 1)) (0, 0, false)) := by
  rw [show n - k = (n - (k + 1)) + 1 by omega, List.replicate_succ, rowM_put (L.take k) (0, 0, false) L[k] _ k (by rw [List.length_take]; omega), List.take_succ_eq_append_getElem (by omega), List.append_assoc]
  rfl

end Go.Proofs.YtgkgdgchkhdgjaaDoor.Til

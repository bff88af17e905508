/- Neighbors: the program's function and the model's say the same of every two cells. -/
import Derived.Test.YtgkgdgchkhdgjaaDoorCellF
namespace Go.Proofs.YtgkgdgchkhdgjaaDoor.CellN
set_option linter.unusedVariables false
open Go.RowKit Go.Proofs.YtgkgdgchkhdgjaaDoor.Base Go.Proofs.YtgkgdgchkhdgjaaDoor.Cell Go.Proofs.YtgkgdgchkhdgjaaDoor.CellF Go.Joins

theorem sAreNeighbors_sq {x y u v : Int} : ((x - u) * (x - u) + (y - v) * (y - v) = 1) ↔ ((x = u ∧ (y = v + 1 ∨ v = y + 1)) ∨ (y = v ∧ (x = u + 1 ∨ u = x + 1))) := by
  constructor
  · intro h
    exact sq_one h
  · have key : ∀ p q : Int, (p = 0 ∧ (q = 1 ∨ q = -1)) ∨ (q = 0 ∧ (p = 1 ∨ p = -1)) → p * p + q * q = 1 := by
      rintro p q (⟨rfl, rfl | rfl⟩ | ⟨rfl, rfl | rfl⟩) <;> rfl
    intro h
    exact key _ _ (by omega)

set_option maxHeartbeats 1000000 in
theorem sAreNeighbors (x y u v : Int) (w : World) :
    Calls Tryd.prog 43 #[.agg #[.int .i64 x, .int .i64 y], .agg #[.int .i64 u, .int .i64 v]] w (Bol (nbB x y u v) w) := by
  have H : ∀ (b : Bool) (W : World), (b = true ↔ Ok x y ∧ Ok u v ∧ ((x = u ∧ (y = v + 1 ∨ v = y + 1)) ∨ (y = v ∧ (x = u + 1 ∨ u = x + 1)))) → Below w.heap.size w W → Bol (nbB x y u v) w (.returned (.bool b)) W := fun b W h hb => mkBol (by rw [Bool.eq_iff_iff, nbB_iff]; exact h) hb
  have HH := Lib.hid H
  clear H
  go_enter Tryd.func43, Tryd.ntmps43
  go_wp2_with fail
  refine (sCellOk x y _).mono ?_
  rintro e w1 ⟨rfl, hb1⟩
  obtain ⟨hb, hc0, hc1, hc2, hc3⟩ := boxes x y u v w w1 hb1
  by_cases hok : Ok x y
  · rw [okB_of hok]
    have HO := Lib.hid hok
    clear hok
    have hz : w.heap.size + 2 ≤ w1.heap.size := by have := hb1.size; simp at this; omega
    clear hb1
    go_wp2_with fail
    refine (sCellOk u v _).mono ?_
    rintro e w2 ⟨rfl, hb2⟩
    have hb' := hb.trans (hb2.mono hb.size)
    rw [← hb2.cell (by show w.heap.size < _; omega)] at hc0 hc1
    rw [← hb2.cell (by show w.heap.size + 1 < _; omega)] at hc2 hc3
    clear hb hb2
    by_cases hok2 : Ok u v
    · rw [okB_of hok2]
      have HO2 := Lib.hid hok2
      obtain ⟨x0, x7, y0, y7⟩ := HO.out
      obtain ⟨u0, u7, v0, v7⟩ := hok2
      have s1 := sq_le (p := (x - u)) (by omega) (by omega)
      have s2 := sq_le (p := (y - v)) (by omega) (by omega)
      obtain ⟨s10, s11⟩ := s1
      obtain ⟨s20, s21⟩ := s2
      go_wp2
      go_ret
      refine HH.out _ _ ?_ hb'
      simp only [HO.out, HO2.out, true_and, beq_iff_eq]
      exact sAreNeighbors_sq
    · rw [okB_not hok2]
      go_wp2
      go_ret
      refine HH.out _ _ ?_ hb'
      simp [hok2]
  · rw [okB_not hok]
    go_wp2
    go_ret
    refine HH.out _ _ ?_ hb
    simp [hok]

theorem iAreNeighbors_sq {x y u v : Int} : ((u - x) * (u - x) + (v - y) * (v - y) = 1) ↔ ((x = u ∧ (y = v + 1 ∨ v = y + 1)) ∨ (y = v ∧ (x = u + 1 ∨ u = x + 1))) := by
  constructor
  · intro h
    have := sq_one h; omega
  · have key : ∀ p q : Int, (p = 0 ∧ (q = 1 ∨ q = -1)) ∨ (q = 0 ∧ (p = 1 ∨ p = -1)) → p * p + q * q = 1 := by
      rintro p q (⟨rfl, rfl | rfl⟩ | ⟨rfl, rfl | rfl⟩) <;> rfl
    intro h
    exact key _ _ (by omega)

end Go.Proofs.YtgkgdgchkhdgjaaDoor.CellN

/- The cells' functions, of the program and of the model: black cells, the index of a cell and the cell of an index, neighbors. -/
import Derived.Test.YtmaghekcpopepaaCell
namespace Go.Proofs.Ytmaghekcpopepaa.CellF
set_option linter.unusedVariables false
open Go.RowKit Go.Proofs.Ytmaghekcpopepaa.Base Go.Proofs.Ytmaghekcpopepaa.Cell Go.Joins

theorem sq_nn (p : Int) : 0 ≤ p * p := by
  by_cases k : 0 ≤ p
  · exact Int.mul_nonneg k k
  · have := Int.mul_nonneg (a := -p) (b := -p) (by omega) (by omega)
    rw [Int.neg_mul_neg] at this; exact this
theorem sq_small {p : Int} (h : p * p ≤ 1) : -1 ≤ p ∧ p ≤ 1 := by
  by_cases k : 2 ≤ p
  · have : 2 * 2 ≤ p * p := Int.mul_le_mul k k (by omega) (by omega)
    omega
  · by_cases k' : 2 ≤ -p
    · have : 2 * 2 ≤ -p * -p := Int.mul_le_mul k' k' (by omega) (by omega)
      rw [Int.neg_mul_neg] at this
      omega
    · omega
theorem sq_one {a b c d : Int} (h : (a - b) * (a - b) + (c - d) * (c - d) = 1) : (a = b ∧ (c = d + 1 ∨ d = c + 1)) ∨ (c = d ∧ (a = b + 1 ∨ b = a + 1)) := by
  have key : ∀ p q : Int, p * p + q * q = 1 → (p = 0 ∧ (q = 1 ∨ q = -1)) ∨ (q = 0 ∧ (p = 1 ∨ p = -1)) := by
    intro p q h
    have n1 := sq_nn p
    have n2 := sq_nn q
    have hp := sq_small (p := p) (by omega)
    have hq := sq_small (p := q) (by omega)
    have hp' : p = -1 ∨ p = 0 ∨ p = 1 := by omega
    have hq' : q = -1 ∨ q = 0 ∨ q = 1 := by omega
    rcases hp' with rfl | rfl | rfl <;> rcases hq' with rfl | rfl | rfl <;> simp at h ⊢
  have := key _ _ h
  omega
theorem sq_le {p : Int} (h : -7 ≤ p) (h' : p ≤ 7) : 0 ≤ p * p ∧ p * p ≤ 49 := by
  by_cases k : 0 ≤ p
  · exact ⟨Int.mul_nonneg k k, Int.mul_le_mul h' h' k (by omega)⟩
  · have := Int.mul_nonneg (a := -p) (b := -p) (by omega) (by omega)
    have h2 : -p * -p ≤ 7 * 7 := Int.mul_le_mul (by omega) (by omega) (by omega) (by omega)
    rw [Int.neg_mul_neg] at *
    exact ⟨this, h2⟩

theorem boxes (x y u v : Int) (w w1 : World) (h : Below ((w.alloc (.cells #[.int .i64 x, .int .i64 y] 52)).alloc (.cells #[.int .i64 u, .int .i64 v] 52)).heap.size ((w.alloc (.cells #[.int .i64 x, .int .i64 y] 52)).alloc (.cells #[.int .i64 u, .int .i64 v] 52)) w1) :
    Below w.heap.size w w1 ∧ w1.cell? ⟨w.heap.size, 0, none⟩ = some (.int .i64 x) ∧ w1.cell? ⟨w.heap.size, 1, none⟩ = some (.int .i64 y) ∧ w1.cell? ⟨w.heap.size + 1, 0, none⟩ = some (.int .i64 u) ∧ w1.cell? ⟨w.heap.size + 1, 1, none⟩ = some (.int .i64 v) := by
  have e1 : ((w.alloc (.cells #[.int .i64 x, .int .i64 y] 52)).alloc (.cells #[.int .i64 u, .int .i64 v] 52)).heap[w.heap.size]? = some (.cells #[.int .i64 x, .int .i64 y] 52) := by
    show ((w.heap.push _).push _)[w.heap.size]? = _
    rw [Array.getElem?_push_lt (by simp)]
    simp
  have e2 : ((w.alloc (.cells #[.int .i64 x, .int .i64 y] 52)).alloc (.cells #[.int .i64 u, .int .i64 v] 52)).heap[w.heap.size + 1]? = some (.cells #[.int .i64 u, .int .i64 v] 52) := by
    show ((w.heap.push _).push _)[w.heap.size + 1]? = _
    have : w.heap.size + 1 = (w.heap.push (.cells #[.int .i64 x, .int .i64 y] 52)).size := by simp
    rw [this]
    exact Array.getElem?_push_size
  refine ⟨(below_alloc2 w _ _).trans (h.mono (by simp; omega)), ?_, ?_, ?_, ?_⟩
  · rw [h.cell (by simp; omega)]; exact (cell_of_row _ _ 0 _ _ _ e1).trans rfl
  · rw [h.cell (by simp; omega)]; exact (cell_of_row _ _ 1 _ _ _ e1).trans rfl
  · rw [h.cell (by simp)]; exact (cell_of_row _ _ 0 _ _ _ e2).trans rfl
  · rw [h.cell (by simp)]; exact (cell_of_row _ _ 1 _ _ _ e2).trans rfl
end Go.Proofs.Ytmaghekcpopepaa.CellF

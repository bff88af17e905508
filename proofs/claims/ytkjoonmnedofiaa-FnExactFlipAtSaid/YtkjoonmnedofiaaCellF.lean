/- The cells' functions, of the program and of the model: black cells, the index of a cell and the cell of an index, neighbors. -/
import Derived.Test.YtkjoonmnedofiaaCell
namespace Go.Proofs.Ytkjoonmnedofiaa.CellF
set_option linter.unusedVariables false
open Go.RowKit Go.Proofs.Ytkjoonmnedofiaa.Base Go.Proofs.Ytkjoonmnedofiaa.Cell Go.Joins

set_option maxHeartbeats 400000 in
theorem iCellIndex (x y : Int) (w : World) :
    Calls Try.prog 103 #[.agg #[.int .i64 x, .int .i64 y]] w (Num (indexN x y) w) := by
  have H : ∀ (b : Int) (W : World), b = indexN x y → Below w.heap.size w W → Num (indexN x y) w (.returned (.int .i64 b)) W := fun b W h hb => mkNum h hb
  have HH := Lib.hid H
  clear H
  go_enter Try.func103, Try.ntmps103
  go_wp2_with fail
  refine (isValid x y _).mono ?_
  rintro e w1 ⟨rfl, hb1⟩
  have hb := box x y w w1 hb1
  by_cases hok : Ok x y
  · have h0 := boxed x y w w1 hb1 0 (by omega)
    have h1 := boxed x y w w1 hb1 1 (by omega)
    have hix : indexN x y = y * 8 + x := by unfold indexN; simp [hok]
    have HI := Lib.hid hix
    clear hix
    rw [okB_of hok]
    obtain ⟨x0, x7, y0, y7⟩ := hok
    go_wp2
    go_ret
    refine HH.out _ _ ?_ hb
    rw [HI.out]
  · have hix : indexN x y = -1 := by unfold indexN; simp [hok]
    have HI := Lib.hid hix
    clear hix
    rw [okB_not hok]
    go_wp2
    go_ret
    refine HH.out _ _ ?_ hb
    rw [HI.out]

set_option maxHeartbeats 400000 in
theorem sCellIndex (x y : Int) (w : World) :
    Calls Try.prog 73 #[.agg #[.int .i64 x, .int .i64 y]] w (Num (indexN x y) w) := by
  have H : ∀ (b : Int) (W : World), b = indexN x y → Below w.heap.size w W → Num (indexN x y) w (.returned (.int .i64 b)) W := fun b W h hb => mkNum h hb
  have HH := Lib.hid H
  clear H
  go_enter Try.func73, Try.ntmps73
  go_wp2_with fail
  refine (sCellOk x y _).mono ?_
  rintro e w1 ⟨rfl, hb1⟩
  have hb := box x y w w1 hb1
  by_cases hok : Ok x y
  · have h0 := boxed x y w w1 hb1 0 (by omega)
    have h1 := boxed x y w w1 hb1 1 (by omega)
    have hix : indexN x y = y * 8 + x := by unfold indexN; simp [hok]
    have HI := Lib.hid hix
    clear hix
    rw [okB_of hok]
    obtain ⟨x0, x7, y0, y7⟩ := hok
    go_wp2
    go_ret
    refine HH.out _ _ ?_ hb
    rw [HI.out]
  · have hix : indexN x y = -1 := by unfold indexN; simp [hok]
    have HI := Lib.hid hix
    clear hix
    rw [okB_not hok]
    go_wp2
    go_ret
    refine HH.out _ _ ?_ hb
    rw [HI.out]


set_option maxHeartbeats 400000 in
theorem iCellAt (n : Int) (w : World) :
    Calls Try.prog 39 #[.int .i64 n] w (CelB (atX n) (atY n) (inB n 0 63) w) := by
  by_cases h0 : 0 ≤ n
  · by_cases h1 : n ≤ 63
    · go_enter Try.func39, Try.ntmps39
      go_wp2
      exact bodyPost_ret (v := .tuple #[.agg #[.int .i64 (n % 8), .int .i64 (n / 8)], .bool true]) (by simp [results, Try.results39, go_sem]) rfl (mkAtIn h0 h1 (below_alloc1 _ _))
    · go_enter Try.func39, Try.ntmps39
      go_wp2
      exact bodyPost_ret (v := .tuple #[.agg #[.int .i64 0, .int .i64 0], .bool false]) (by simp [results, Try.results39, go_sem]) rfl (mkAtOut (by omega) (below_alloc1 _ _))
  · go_enter Try.func39, Try.ntmps39
    go_wp2
    exact bodyPost_ret (v := .tuple #[.agg #[.int .i64 0, .int .i64 0], .bool false]) (by simp [results, Try.results39, go_sem]) rfl (mkAtOut (by omega) (below_alloc1 _ _))

theorem sq_nn (p : Int) : 0 ≤ p * p := by
  by_cases k : 0 ≤ p
  · exact Int.mul_nonneg k k
  · have := Int.mul_nonneg (a := -p) (b := -p) (by omega) (by omega)
    rw [Int.neg_mul_neg] at this; exact this
theorem sq_small {p : Int} (h : p * p ≤ 1) : -1 ≤ p ∧ p ≤ 1 := by
  by_cases k : 2 ≤ p
  · have : 2 * 2 ≤ p * p := Int.mul_le_mul k k (by omega) (by omega)
    omega
  · by_cases k' : 2 ≤ -p
    · have : 2 * 2 ≤ -p * -p := Int.mul_le_mul k' k' (by omega) (by omega)
      rw [Int.neg_mul_neg] at this
      omega
    · omega
theorem sq_one {a b c d : Int} (h : (a - b) * (a - b) + (c - d) * (c - d) = 1) : (a = b ∧ (c = d + 1 ∨ d = c + 1)) ∨ (c = d ∧ (a = b + 1 ∨ b = a + 1)) := by
  have key : ∀ p q : Int, p * p + q * q = 1 → (p = 0 ∧ (q = 1 ∨ q = -1)) ∨ (q = 0 ∧ (p = 1 ∨ p = -1)) := by
    intro p q h
    have n1 := sq_nn p
    have n2 := sq_nn q
    have hp := sq_small (p := p) (by omega)
    have hq := sq_small (p := q) (by omega)
    have hp' : p = -1 ∨ p = 0 ∨ p = 1 := by omega
    have hq' : q = -1 ∨ q = 0 ∨ q = 1 := by omega
    rcases hp' with rfl | rfl | rfl <;> rcases hq' with rfl | rfl | rfl <;> simp at h ⊢
  have := key _ _ h
  omega
theorem sq_le {p : Int} (h : -7 ≤ p) (h' : p ≤ 7) : 0 ≤ p * p ∧ p * p ≤ 49 := by
  by_cases k : 0 ≤ p
  · exact ⟨Int.mul_nonneg k k, Int.mul_le_mul h' h' k (by omega)⟩
  · have := Int.mul_nonneg (a := -p) (b := -p) (by omega) (by omega)
    have h2 : -p * -p ≤ 7 * 7 := Int.mul_le_mul (by omega) (by omega) (by omega) (by omega)
    rw [Int.neg_mul_neg] at *
    exact ⟨this, h2⟩

theorem boxes (x y u v : Int) (w w1 : World) (h : Below ((w.alloc (.cells #[.int .i64 x, .int .i64 y] 35)).alloc (.cells #[.int .i64 u, .int .i64 v] 35)).heap.size ((w.alloc (.cells #[.int .i64 x, .int .i64 y] 35)).alloc (.cells #[.int .i64 u, .int .i64 v] 35)) w1) :
    Below w.heap.size w w1 ∧ w1.cell? ⟨w.heap.size, 0, none⟩ = some (.int .i64 x) ∧ w1.cell? ⟨w.heap.size, 1, none⟩ = some (.int .i64 y) ∧ w1.cell? ⟨w.heap.size + 1, 0, none⟩ = some (.int .i64 u) ∧ w1.cell? ⟨w.heap.size + 1, 1, none⟩ = some (.int .i64 v) := by
  have e1 : ((w.alloc (.cells #[.int .i64 x, .int .i64 y] 35)).alloc (.cells #[.int .i64 u, .int .i64 v] 35)).heap[w.heap.size]? = some (.cells #[.int .i64 x, .int .i64 y] 35) := by
    show ((w.heap.push _).push _)[w.heap.size]? = _
    rw [Array.getElem?_push_lt (by simp)]
    simp
  have e2 : ((w.alloc (.cells #[.int .i64 x, .int .i64 y] 35)).alloc (.cells #[.int .i64 u, .int .i64 v] 35)).heap[w.heap.size + 1]? = some (.cells #[.int .i64 u, .int .i64 v] 35) := by
    show ((w.heap.push _).push _)[w.heap.size + 1]? = _
    have : w.heap.size + 1 = (w.heap.push (.cells #[.int .i64 x, .int .i64 y] 35)).size := by simp
    rw [this]
    exact Array.getElem?_push_size
  refine ⟨(below_alloc2 w _ _).trans (h.mono (by simp; omega)), ?_, ?_, ?_, ?_⟩
  · rw [h.cell (by simp; omega)]; exact (cell_of_row _ _ 0 _ _ _ e1).trans rfl
  · rw [h.cell (by simp; omega)]; exact (cell_of_row _ _ 1 _ _ _ e1).trans rfl
  · rw [h.cell (by simp)]; exact (cell_of_row _ _ 0 _ _ _ e2).trans rfl
  · rw [h.cell (by simp)]; exact (cell_of_row _ _ 1 _ _ _ e2).trans rfl
end Go.Proofs.Ytkjoonmnedofiaa.CellF

/- The exact laws of the cells' plain functions hold of every argument: the program's answer is the model's. -/
import Derived.Test.YthbaddbanjibkaaCellN
import Derived.Deep.RegionHeld3
namespace Go.Proofs.Ythbaddbanjibkaa.CellL
set_option linter.unusedVariables false
open Go.RowKit Go.Proofs.Ythbaddbanjibkaa.Base Go.Proofs.Ythbaddbanjibkaa.Cell Go.Proofs.Ythbaddbanjibkaa.CellF Go.Proofs.Ythbaddbanjibkaa.CellN Go.Joins

/-- the law says yes, and makes memory at most. -/
def Yes (w : World) (e : Ending) (w' : World) : Prop := e = .returned (.bool true) ∧ Below w.heap.size w w'
/-- what lies in a parameter's box. -/
theorem bx {T : TypeId} (x y : Int) (w w1 : World) (h : Below (w.alloc (.cells #[.int .i64 x, .int .i64 y] T)).heap.size (w.alloc (.cells #[.int .i64 x, .int .i64 y] T)) w1) :
    Below w.heap.size w w1 ∧ w1.cell? ⟨w.heap.size, 0, none⟩ = some (.int .i64 x) ∧ w1.cell? ⟨w.heap.size, 1, none⟩ = some (.int .i64 y) := by
  have hbl : (w.alloc (.cells #[.int .i64 x, .int .i64 y] T)).heap[w.heap.size]? = some (.cells #[.int .i64 x, .int .i64 y] T) := by
    show (w.heap.push _)[w.heap.size]? = _
    exact Array.getElem?_push_size
  refine ⟨(below_alloc1 w _).trans (h.mono (by simp)), ?_, ?_⟩
  · rw [h.cell (by simp)]; exact (cell_of_row _ _ 0 _ _ _ hbl).trans rfl
  · rw [h.cell (by simp)]; exact (cell_of_row _ _ 1 _ _ _ hbl).trans rfl

/-- what lies in a variable of the type that the program has. -/
theorem bxc {T : TypeId} (x y : Int) (w w1 : World) (h : Below (w.alloc (.cells #[.int .i64 x, .int .i64 y] T)).heap.size (w.alloc (.cells #[.int .i64 x, .int .i64 y] T)) w1) :
    w1.cell? ⟨w.heap.size, 0, none⟩ = some (.int .i64 x) ∧ w1.cell? ⟨w.heap.size, 1, none⟩ = some (.int .i64 y) := (bx x y w w1 h).2

set_option maxHeartbeats 400000 in
theorem lawCellOk (x y : Int) (w : World) :
    Calls Try.prog 3 #[.agg #[.int .i64 x, .int .i64 y]] w (Yes w) := by
  go_enter Try.func3, Try.ntmps3
  go_wp2_with fail
  refine (toCell x y _).mono ?_
  rintro e w1 ⟨rfl, hb1⟩
  go_wp2_with fail
  refine (sCellOk x y _).mono ?_
  rintro e w2 ⟨rfl, hb2⟩
  have hb12 := hb1.trans (hb2.mono hb1.size)
  obtain ⟨hb, hc0, hc1⟩ := bx x y w w2 hb12
  clear hb1 hb2 hb12
  go_wp2_with fail
  refine (toCell x y _).mono ?_
  rintro e w3 ⟨rfl, hb3⟩
  have hb' := hb.trans (hb3.mono hb.size)
  clear hc0 hc1 hb hb3
  go_wp2_with fail
  refine (cellOk x y _).mono ?_
  rintro e w4 ⟨rfl, hb4⟩
  have hb'' := hb'.trans (hb4.mono hb'.size)
  clear hb' hb4
  generalize okB x y = b
  have hq : (b != b) = false := by simp
  go_wp2
  go_ret
  exact ⟨rfl, hb''⟩

set_option maxHeartbeats 400000 in
theorem lawIsBlack (x y : Int) (w : World) :
    Calls Try.prog 4 #[.agg #[.int .i64 x, .int .i64 y]] w (Yes w) := by
  go_enter Try.func4, Try.ntmps4
  go_wp2_with fail
  refine (toCell x y _).mono ?_
  rintro e w1 ⟨rfl, hb1⟩
  go_wp2_with fail
  refine (sIsBlack x y _).mono ?_
  rintro e w2 ⟨rfl, hb2⟩
  have hb12 := hb1.trans (hb2.mono hb1.size)
  obtain ⟨hb, hc0, hc1⟩ := bx x y w w2 hb12
  clear hb1 hb2 hb12
  go_wp2_with fail
  refine (toCell x y _).mono ?_
  rintro e w3 ⟨rfl, hb3⟩
  have hb' := hb.trans (hb3.mono hb.size)
  clear hc0 hc1 hb hb3
  go_wp2_with fail
  refine (iIsBlack x y _).mono ?_
  rintro e w4 ⟨rfl, hb4⟩
  have hb'' := hb'.trans (hb4.mono hb'.size)
  clear hb' hb4
  generalize blackB x y = b
  have hq : (b != b) = false := by simp
  go_wp2
  go_ret
  exact ⟨rfl, hb''⟩

set_option maxHeartbeats 400000 in
theorem lawCellIndex (x y : Int) (w : World) :
    Calls Try.prog 5 #[.agg #[.int .i64 x, .int .i64 y]] w (Yes w) := by
  go_enter Try.func5, Try.ntmps5
  go_wp2_with fail
  refine (toCell x y _).mono ?_
  rintro e w1 ⟨rfl, hb1⟩
  go_wp2_with fail
  refine (sCellIndex x y _).mono ?_
  rintro e w2 ⟨rfl, hb2⟩
  have hb12 := hb1.trans (hb2.mono hb1.size)
  obtain ⟨hb, hc0, hc1⟩ := bx x y w w2 hb12
  clear hb1 hb2 hb12
  go_wp2_with fail
  refine (toCell x y _).mono ?_
  rintro e w3 ⟨rfl, hb3⟩
  have hb' := hb.trans (hb3.mono hb.size)
  clear hc0 hc1 hb hb3
  go_wp2_with fail
  refine (iCellIndex x y _).mono ?_
  rintro e w4 ⟨rfl, hb4⟩
  have hb'' := hb'.trans (hb4.mono hb'.size)
  clear hb' hb4
  generalize indexN x y = b
  have hq : (b != b) = false := by simp
  go_wp2
  go_ret
  exact ⟨rfl, hb''⟩

set_option maxHeartbeats 400000 in
theorem lawCellAt (n : Int) (_hn : (Lit.int .i64 n).wf = true) (w : World) :
    Calls Try.prog 6 #[.int .i64 n] w (Yes w) := by
  have HE := Lib.hid (show eqB (atX n) (atY n) (atX n) (atY n) = true from eqB_iff.2 ⟨rfl, rfl⟩)
  go_enter Try.func6, Try.ntmps6
  go_wp2_with fail
  refine (sCellAt n _).mono ?_
  rintro e w1 ⟨rfl, hb1⟩
  go_wp2_with fail
  refine (iCellAt n _).mono ?_
  rintro e w2 ⟨rfl, hb2⟩
  generalize atX n = x at HE hb2 ⊢
  generalize atY n = y at HE hb2 ⊢
  generalize inB n 0 63 = b at hb2 ⊢
  have hq : (b != b) = false := by simp
  have hA := hb1.alloc hb1.size (.cells #[.int .i64 x, .int .i64 y] 25)
  have hB := hA.trans (hb2.mono hA.size)
  obtain ⟨hc0, hc1⟩ := bxc x y w1 w2 hb2
  have hz : w1.heap.size + 1 ≤ w2.heap.size := by have := hb2.size; simp at this; omega
  have hz2 : w1.heap.size < w2.heap.size := by omega
  clear hb1 hb2 hA
  go_wp2_with fail
  refine (eqCell x y x y _).mono ?_
  rintro e w3 ⟨rfl, hb3⟩
  rw [HE.out]
  have hC := hB.alloc hB.size (.cells #[.int .i64 x, .int .i64 y] 25)
  have hD := hC.trans (hb3.mono hC.size)
  clear hB hC hb3 hc0 hc1
  go_wp2
  go_ret
  exact ⟨rfl, hD⟩

/-- two parameters' boxes, in a world behind their making. -/
def Two (w : World) (x y u v : Int) (w' : World) : Prop :=
  Below w.heap.size w w' ∧ w.heap.size + 2 ≤ w'.heap.size ∧ w'.cell? ⟨w.heap.size, 0, none⟩ = some (.int .i64 x) ∧ w'.cell? ⟨w.heap.size, 1, none⟩ = some (.int .i64 y) ∧ w'.cell? ⟨w.heap.size + 1, 0, none⟩ = some (.int .i64 u) ∧ w'.cell? ⟨w.heap.size + 1, 1, none⟩ = some (.int .i64 v)
theorem two_start {T : TypeId} (x y u v : Int) (w : World) : Two w x y u v ((w.alloc (.cells #[.int .i64 x, .int .i64 y] T)).alloc (.cells #[.int .i64 u, .int .i64 v] T)) := by
  have e1 : ((w.alloc (.cells #[.int .i64 x, .int .i64 y] T)).alloc (.cells #[.int .i64 u, .int .i64 v] T)).heap[w.heap.size]? = some (.cells #[.int .i64 x, .int .i64 y] T) := by
    show ((w.heap.push _).push _)[w.heap.size]? = _
    rw [Array.getElem?_push_lt (by simp)]
    simp
  have e2 : ((w.alloc (.cells #[.int .i64 x, .int .i64 y] T)).alloc (.cells #[.int .i64 u, .int .i64 v] T)).heap[w.heap.size + 1]? = some (.cells #[.int .i64 u, .int .i64 v] T) := by
    show ((w.heap.push _).push _)[w.heap.size + 1]? = _
    have : w.heap.size + 1 = (w.heap.push (.cells #[.int .i64 x, .int .i64 y] T)).size := by simp
    rw [this]
    exact Array.getElem?_push_size
  exact ⟨below_alloc2 w _ _, by simp, (cell_of_row _ _ 0 _ _ _ e1).trans rfl, (cell_of_row _ _ 1 _ _ _ e1).trans rfl, (cell_of_row _ _ 0 _ _ _ e2).trans rfl, (cell_of_row _ _ 1 _ _ _ e2).trans rfl⟩
theorem Two.on {w W W' : World} {x y u v : Int} (h : Two w x y u v W) (hb : Below W.heap.size W W') : Two w x y u v W' := by
  obtain ⟨h0, h1, h2, h3, h4, h5⟩ := h
  have hz := hb.size
  refine ⟨h0.trans (hb.mono h0.size), by omega, ?_, ?_, ?_, ?_⟩
  · rw [hb.cell (by show w.heap.size < _; omega)]; exact h2
  · rw [hb.cell (by show w.heap.size < _; omega)]; exact h3
  · rw [hb.cell (by show w.heap.size + 1 < _; omega)]; exact h4
  · rw [hb.cell (by show w.heap.size + 1 < _; omega)]; exact h5
theorem Two.drewN {w W : World} {x y u v : Int} (h : Two w x y u v W) (n : Nat) : Two w x y u v (W.drewN n) := ⟨drewBelow h.1 n, h.2⟩
theorem Two.drew {w W : World} {x y u v : Int} (h : Two w x y u v W) : Two w x y u v W.drew := ⟨h.1.drew, h.2⟩

set_option maxHeartbeats 1000000 in
theorem lawAreNeighbors (x y u v : Int) (w : World) :
    Calls Try.prog 7 #[.agg #[.int .i64 x, .int .i64 y], .agg #[.int .i64 u, .int .i64 v]] w (Yes w) := by
  have T0 := Lib.hid (fun T => two_start (T := T) x y u v w)
  go_enter Try.func7, Try.ntmps7
  go_wp2_with fail
  have T1 := T0.out 23
  generalize (w.alloc (.cells #[.int .i64 x, .int .i64 y] 23)).alloc (.cells #[.int .i64 u, .int .i64 v] 23) = W at T1 ⊢
  clear T0
  go_region_held3 (fun w' => Below w.heap.size w w' ∧ w.heap.size + 2 ≤ w'.heap.size ∧ w'.cell? ⟨w.heap.size, 0, none⟩ = some (.int .i64 x) ∧ w'.cell? ⟨w.heap.size, 1, none⟩ = some (.int .i64 y) ∧ w'.cell? ⟨w.heap.size + 1, 0, none⟩ = some (.int .i64 u) ∧ w'.cell? ⟨w.heap.size + 1, 1, none⟩ = some (.int .i64 v))
    (first | assumption | exact Two.drew (by assumption) | exact Two.on (by assumption) (by assumption))
    (first | (go_at_call 10; refine (toCell _ _ _).mono ?_; rintro e wx ⟨rfl, hbx⟩) | (go_at_call 19; refine (sAreNeighbors x y u v _).mono ?_; rintro e wx ⟨rfl, hbx⟩))
  have T2 : Two w x y u v wx := by assumption
  clear T1
  go_wp2_with fail
  go_region_held3 (fun w' => Below w.heap.size w w' ∧ w.heap.size + 2 ≤ w'.heap.size ∧ w'.cell? ⟨w.heap.size, 0, none⟩ = some (.int .i64 x) ∧ w'.cell? ⟨w.heap.size, 1, none⟩ = some (.int .i64 y) ∧ w'.cell? ⟨w.heap.size + 1, 0, none⟩ = some (.int .i64 u) ∧ w'.cell? ⟨w.heap.size + 1, 1, none⟩ = some (.int .i64 v))
    (first | assumption | exact Two.drew (by assumption) | exact Two.on (by assumption) (by assumption))
    (first | (go_at_call 10; refine (toCell _ _ _).mono ?_; rintro e wy ⟨rfl, hby⟩) | (go_at_call 20; refine (iAreNeighbors x y u v _).mono ?_; rintro e wy ⟨rfl, hby⟩))
  have T3 : Two w x y u v wy := by assumption
  have hb := T3.1
  clear T2 T3
  generalize nbB x y u v = b
  have hq : (b != b) = false := by simp
  go_wp2
  go_ret
  exact ⟨rfl, hb⟩
end Go.Proofs.Ythbaddbanjibkaa.CellL

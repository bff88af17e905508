/- Dominoes: which are valid and what they cover: the program's functions and the model's, of every domino. -/
import Derived.Test.YtgkgdgchkhdgjaaDoorDom
namespace Go.Proofs.YtgkgdgchkhdgjaaDoor.Dom
set_option linter.unusedVariables false
set_option linter.unusedSimpArgs false
open Go.RowKit Go.Proofs.YtgkgdgchkhdgjaaDoor.Base Go.Proofs.YtgkgdgchkhdgjaaDoor.Cell Go.Proofs.YtgkgdgchkhdgjaaDoor.CellF Go.Proofs.YtgkgdgchkhdgjaaDoor.CellN Go.Joins

/-- a domino lies in block q. -/
def At3 (T : TypeId) (W : World) (q : Nat) (x y : Int) (b : Bool) : Prop := W.heap[q]? = some (.cells #[.int .i64 x, .int .i64 y, .bool b] T)
section
variable {T : TypeId} {W W' : World} {q : Nat} {x y : Int} {b : Bool}
theorem At3.on (h : At3 T W q x y b) (hb : Below W.heap.size W W') : At3 T W' q x y b := (hb.block q (Array.getElem?_eq_some_iff.1 h).1).trans h
theorem At3.c0 (h : At3 T W q x y b) : W.cell? ⟨q, 0, none⟩ = some (.int .i64 x) := (cell_of_row _ _ 0 _ _ _ h).trans rfl
theorem At3.c1 (h : At3 T W q x y b) : W.cell? ⟨q, 1, none⟩ = some (.int .i64 y) := (cell_of_row _ _ 1 _ _ _ h).trans rfl
theorem At3.c2 (h : At3 T W q x y b) : W.cell? ⟨q, 2, none⟩ = some (.bool b) := (cell_of_row _ _ 2 _ _ _ h).trans rfl
theorem At3.lt (h : At3 T W q x y b) : q < W.heap.size := (Array.getElem?_eq_some_iff.1 h).1
theorem At3.new (T : TypeId) (W : World) (x y : Int) (b : Bool) : At3 T (W.alloc (.cells #[.int .i64 x, .int .i64 y, .bool b] T)) W.heap.size x y b := heap_alloc_new W _
end

theorem bx3 {T : TypeId} (x y : Int) (b : Bool) (w w1 : World) (h : Below (w.alloc (.cells #[.int .i64 x, .int .i64 y, .bool b] T)).heap.size (w.alloc (.cells #[.int .i64 x, .int .i64 y, .bool b] T)) w1) : Below w.heap.size w w1 ∧ At3 T w1 w.heap.size x y b :=
  ⟨(below_alloc1 w _).trans (h.mono (by simp)), (At3.new T w x y b).on h⟩
/-- two cells that were laid one behind the other. -/
theorem at2_two (W : World) (x y u v : Int) :
    At2 ((W.alloc (.cells #[.int .i64 x, .int .i64 y] 33)).alloc (.cells #[.int .i64 u, .int .i64 v] 33)) W.heap.size x y ∧
    At2 ((W.alloc (.cells #[.int .i64 x, .int .i64 y] 33)).alloc (.cells #[.int .i64 u, .int .i64 v] 33)) (W.heap.size + 1) u v ∧
    Below W.heap.size W ((W.alloc (.cells #[.int .i64 x, .int .i64 y] 33)).alloc (.cells #[.int .i64 u, .int .i64 v] 33)) := by
  have e0 : (W.alloc (.cells #[.int .i64 x, .int .i64 y] 33)).heap.size = W.heap.size + 1 := by simp
  have k1 := At2.new (W.alloc (.cells #[.int .i64 x, .int .i64 y] 33)) u v
  rw [e0] at k1
  exact ⟨(At2.new W x y).on (below_alloc1 _ _), k1, below_alloc2 W _ _⟩

/-- a domino's box and the two cells that a function returns. -/
def Thr (w : World) (x y : Int) (b : Bool) (m n u v : Int) (W : World) : Prop := Below w.heap.size w W ∧ At3 121 W w.heap.size x y b ∧ At2 W (w.heap.size + 1) m n ∧ At2 W (w.heap.size + 1 + 1) u v
theorem thr_start (x y : Int) (b : Bool) (w : World) : Thr w x y b 0 0 0 0 (((w.alloc (.cells #[.int .i64 x, .int .i64 y, .bool b] 121)).alloc (.cells #[.int .i64 0, .int .i64 0] 33)).alloc (.cells #[.int .i64 0, .int .i64 0] 33)) := by
  have e0 : (w.alloc (.cells #[.int .i64 x, .int .i64 y, .bool b] 121)).heap.size = w.heap.size + 1 := by simp
  obtain ⟨k1, k2, k3⟩ := at2_two (w.alloc (.cells #[.int .i64 x, .int .i64 y, .bool b] 121)) 0 0 0 0
  rw [e0] at k1 k2
  obtain ⟨hb, K⟩ := bx3 x y b w _ k3
  exact ⟨hb, K, k1, k2⟩
theorem At3.far {T : TypeId} {W : World} {p q i : Nat} {x y : Int} {b : Bool} {v : Value} (h : At3 T W q x y b) (hp : q ≠ p) : At3 T (W.setCell ⟨p, i, none⟩ v) q x y b := (Below.heap_setCell W ⟨p, i, none⟩ v q hp).trans h
section
variable {w W W' : World} {x y m n u v : Int} {b : Bool}
theorem Thr.drew (h : Thr w x y b m n u v W) : Thr w x y b m n u v W.drew := ⟨h.1.drew, h.2⟩
theorem Thr.on (h : Thr w x y b m n u v W) (hb : Below W.heap.size W W') : Thr w x y b m n u v W' := ⟨h.1.trans (hb.mono h.1.size), h.2.1.on hb, h.2.2.1.on hb, h.2.2.2.on hb⟩
theorem Thr.put1 (h : Thr w x y b m n u v W) (a' b' : Int) : Thr w x y b a' b' u v ((W.setCell ⟨w.heap.size + 1, 0, none⟩ (.int .i64 a')).setCell ⟨w.heap.size + 1, 1, none⟩ (.int .i64 b')) :=
  ⟨(h.1.setCell (p := ⟨w.heap.size + 1, 0, none⟩) (by show w.heap.size ≤ w.heap.size + 1; omega) _).setCell (p := ⟨w.heap.size + 1, 1, none⟩) (by show w.heap.size ≤ w.heap.size + 1; omega) _, (h.2.1.far (by omega)).far (by omega), h.2.2.1.put, h.2.2.2.far2 (by omega)⟩
theorem Thr.put2 (h : Thr w x y b m n u v W) (c' d' : Int) : Thr w x y b m n c' d' ((W.setCell ⟨w.heap.size + 1 + 1, 0, none⟩ (.int .i64 c')).setCell ⟨w.heap.size + 1 + 1, 1, none⟩ (.int .i64 d')) :=
  ⟨(h.1.setCell (p := ⟨w.heap.size + 1 + 1, 0, none⟩) (by show w.heap.size ≤ w.heap.size + 1 + 1; omega) _).setCell (p := ⟨w.heap.size + 1 + 1, 1, none⟩) (by show w.heap.size ≤ w.heap.size + 1 + 1; omega) _, (h.2.1.far (by omega)).far (by omega), h.2.2.1.far2 (by omega), h.2.2.2.put⟩
end

end Go.Proofs.YtgkgdgchkhdgjaaDoor.Dom

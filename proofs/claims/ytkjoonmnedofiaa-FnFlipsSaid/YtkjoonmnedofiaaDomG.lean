/- Dominoes: the domino over two cells, overlaps, and the order of dominoes: the program's functions and the model's, of every argument. -/
import Derived.Test.YtkjoonmnedofiaaDomF
import Derived.Deep.CutRange
namespace Go.Proofs.Ytkjoonmnedofiaa.Dom
set_option linter.unusedVariables false
set_option linter.unusedSimpArgs false
open Go.RowKit Go.Proofs.Ytkjoonmnedofiaa.Base Go.Proofs.Ytkjoonmnedofiaa.Cell Go.Proofs.Ytkjoonmnedofiaa.CellF Go.Proofs.Ytkjoonmnedofiaa.CellN Go.Joins

/-- an ending with one domino. -/
def Do (x y : Int) (b : Bool) (w : World) (e : Ending) (w' : World) : Prop := e = .returned (.agg #[.int .i64 x, .int .i64 y, .bool b]) ∧ Below w.heap.size w w'
/-- an ending with one domino and a bool. -/
def DoB (x y : Int) (b r : Bool) (w : World) (e : Ending) (w' : World) : Prop := e = .returned (.tuple #[.agg #[.int .i64 x, .int .i64 y, .bool b], .bool r]) ∧ Below w.heap.size w w'
theorem mkDoB {a c x y : Int} {b d r q : Bool} {w W : World} (h1 : a = x) (h2 : c = y) (h3 : d = b) (h4 : q = r) (hb : Below w.heap.size w W) : DoB x y b r w (.returned (.tuple #[.agg #[.int .i64 a, .int .i64 c, .bool d], .bool q])) W := ⟨by rw [h1, h2, h3, h4], hb⟩

/-- a domino's box and a cell's. -/
theorem bx32 {T : TypeId} (u v : Int) (c : Bool) (p q : Int) (w w1 : World) (h : Below ((w.alloc (.cells #[.int .i64 u, .int .i64 v, .bool c] T)).alloc (.cells #[.int .i64 p, .int .i64 q] 35)).heap.size ((w.alloc (.cells #[.int .i64 u, .int .i64 v, .bool c] T)).alloc (.cells #[.int .i64 p, .int .i64 q] 35)) w1) :
    Below w.heap.size w w1 ∧ At3 T w1 w.heap.size u v c ∧ At2 w1 (w.heap.size + 1) p q := by
  have e0 : (w.alloc (.cells #[.int .i64 u, .int .i64 v, .bool c] T)).heap.size = w.heap.size + 1 := by simp
  have k1 := At2.new (w.alloc (.cells #[.int .i64 u, .int .i64 v, .bool c] T)) p q
  rw [e0] at k1
  exact ⟨(below_alloc2 w _ _).trans (h.mono (by simp; omega)), ((At3.new T w u v c).on (below_alloc1 _ _)).on h, k1.on h⟩
/-- two dominoes' boxes. -/
theorem bx33 {T T' : TypeId} (x y : Int) (b : Bool) (u v : Int) (c : Bool) (w w1 : World) (h : Below ((w.alloc (.cells #[.int .i64 x, .int .i64 y, .bool b] T)).alloc (.cells #[.int .i64 u, .int .i64 v, .bool c] T')).heap.size ((w.alloc (.cells #[.int .i64 x, .int .i64 y, .bool b] T)).alloc (.cells #[.int .i64 u, .int .i64 v, .bool c] T')) w1) :
    Below w.heap.size w w1 ∧ At3 T w1 w.heap.size x y b ∧ At3 T' w1 (w.heap.size + 1) u v c := by
  have e0 : (w.alloc (.cells #[.int .i64 x, .int .i64 y, .bool b] T)).heap.size = w.heap.size + 1 := by simp
  have k1 := At3.new T' (w.alloc (.cells #[.int .i64 x, .int .i64 y, .bool b] T)) u v c
  rw [e0] at k1
  exact ⟨(below_alloc2 w _ _).trans (h.mono (by simp; omega)), ((At3.new T w x y b).on (below_alloc1 _ _)).on h, k1.on h⟩

/-- two pairs of cells have a cell in common. -/
def ovP (x y m n u v s t : Int) : Bool := eqB x y u v || eqB x y s t || (eqB m n u v || eqB m n s t)
/-- two dominoes overlap. -/
def ovB (x y : Int) (b : Bool) (u v : Int) (c : Bool) : Bool := domB x y b && domB u v c && ovP x y (sx x b) (sy y b) u v (sx u c) (sy v c)
theorem ovP_iff {x y m n u v s t : Int} : ovP x y m n u v s t = true ↔ (x = u ∧ y = v) ∨ (x = s ∧ y = t) ∨ (m = u ∧ n = v) ∨ (m = s ∧ n = t) := by
  unfold ovP
  simp only [Bool.or_eq_true, eqB_iff]
  constructor
  · rintro ((h | h) | (h | h))
    · exact .inl h
    · exact .inr (.inl h)
    · exact .inr (.inr (.inl h))
    · exact .inr (.inr (.inr h))
  · rintro (h | h | h | h)
    · exact .inl (.inl h)
    · exact .inl (.inr h)
    · exact .inr (.inl h)
    · exact .inr (.inr h)

end Go.Proofs.Ytkjoonmnedofiaa.Dom

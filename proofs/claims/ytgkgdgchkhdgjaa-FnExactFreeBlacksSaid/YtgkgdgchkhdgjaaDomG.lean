/- Dominoes: the domino over two cells, overlaps, and the order of dominoes: the program's functions and the model's, of every argument. -/
import Derived.Test.YtgkgdgchkhdgjaaDomF
import Derived.Deep.CutRange
namespace Go.Proofs.Ytgkgdgchkhdgjaa.Dom
set_option linter.unusedVariables false
set_option linter.unusedSimpArgs false
open Go.RowKit Go.Proofs.Ytgkgdgchkhdgjaa.Base Go.Proofs.Ytgkgdgchkhdgjaa.Cell Go.Proofs.Ytgkgdgchkhdgjaa.CellF Go.Proofs.Ytgkgdgchkhdgjaa.CellN Go.Joins

/-- an ending with one domino. -/
def Do (x y : Int) (b : Bool) (w : World) (e : Ending) (w' : World) : Prop := e = .returned (.agg #[.int .i64 x, .int .i64 y, .bool b]) ∧ Below w.heap.size w w'
/-- an ending with one domino and a bool. -/
def DoB (x y : Int) (b r : Bool) (w : World) (e : Ending) (w' : World) : Prop := e = .returned (.tuple #[.agg #[.int .i64 x, .int .i64 y, .bool b], .bool r]) ∧ Below w.heap.size w w'
theorem mkDoB {a c x y : Int} {b d r q : Bool} {w W : World} (h1 : a = x) (h2 : c = y) (h3 : d = b) (h4 : q = r) (hb : Below w.heap.size w W) : DoB x y b r w (.returned (.tuple #[.agg #[.int .i64 a, .int .i64 c, .bool d], .bool q])) W := ⟨by rw [h1, h2, h3, h4], hb⟩

/-- a domino's box and a cell's. -/
theorem bx32 {T : TypeId} (u v : Int) (c : Bool) (p q : Int) (w w1 : World) (h : Below ((w.alloc (.cells #[.int .i64 u, .int .i64 v, .bool c] T)).alloc (.cells #[.int .i64 p, .int .i64 q] 58)).heap.size ((w.alloc (.cells #[.int .i64 u, .int .i64 v, .bool c] T)).alloc (.cells #[.int .i64 p, .int .i64 q] 58)) w1) :
    Below w.heap.size w w1 ∧ At3 T w1 w.heap.size u v c ∧ At2 w1 (w.heap.size + 1) p q := by
  have e0 : (w.alloc (.cells #[.int .i64 u, .int .i64 v, .bool c] T)).heap.size = w.heap.size + 1 := by simp
  have k1 := At2.new (w.alloc (.cells #[.int .i64 u, .int .i64 v, .bool c] T)) p q
  rw [e0] at k1
  exact ⟨(below_alloc2 w _ _).trans (h.mono (by simp; omega)), ((At3.new T w u v c).on (below_alloc1 _ _)).on h, k1.on h⟩
/-- two dominoes' boxes. -/
theorem bx33 {T T' : TypeId} (x y : Int) (b : Bool) (u v : Int) (c : Bool) (w w1 : World) (h : Below ((w.alloc (.cells #[.int .i64 x, .int .i64 y, .bool b] T)).alloc (.cells #[.int .i64 u, .int .i64 v, .bool c] T')).heap.size ((w.alloc (.cells #[.int .i64 x, .int .i64 y, .bool b] T)).alloc (.cells #[.int .i64 u, .int .i64 v, .bool c] T')) w1) :
    Below w.heap.size w w1 ∧ At3 T w1 w.heap.size x y b ∧ At3 T' w1 (w.heap.size + 1) u v c := by
  have e0 : (w.alloc (.cells #[.int .i64 x, .int .i64 y, .bool b] T)).heap.size = w.heap.size + 1 := by simp
  have k1 := At3.new T' (w.alloc (.cells #[.int .i64 x, .int .i64 y, .bool b] T)) u v c
  rw [e0] at k1
  exact ⟨(below_alloc2 w _ _).trans (h.mono (by simp; omega)), ((At3.new T w x y b).on (below_alloc1 _ _)).on h, k1.on h⟩

set_option maxHeartbeats 400000 in
theorem iCovers (u v : Int) (c : Bool) (hu : Sm u) (hv : Sm v) (p q : Int) (w : World) :
    Calls Try.prog 115 #[.agg #[.int .i64 u, .int .i64 v, .bool c], .agg #[.int .i64 p, .int .i64 q]] w (Bol (eqB p q u v || eqB p q (sx u c) (sy v c)) w) := by
  have HC := Lib.hid (fun W => iCells u v c hu hv W)
  generalize sx u c = m at HC ⊢
  generalize sy v c = n at HC ⊢
  clear hu hv
  go_enter Try.func115, Try.ntmps115
  go_wp2_with fail
  refine (HC.out _).mono ?_
  rintro e w1 ⟨rfl, hb1⟩
  obtain ⟨hb, K1, K2⟩ := bx32 u v c p q w w1 hb1
  go_upto_region 2 with fail
  obtain ⟨k1, k2, k3⟩ := at2_two w1 u v m n
  have hB := hb.trans (k3.mono hb.size)
  have K3 := K2.on k3
  have hz := K2.lt
  generalize (w1.alloc (.cells #[.int .i64 u, .int .i64 v] 58)).alloc (.cells #[.int .i64 m, .int .i64 n] 58) = W at k1 k2 K3 hB ⊢
  have c0 := k1.c0
  have c1 := k1.c1
  have c2 := k2.c0
  have c3 := k2.c1
  have c4 := K3.c0
  have c5 := K3.c1
  have HH := Lib.hid (fun r (h : r = true ↔ (p = u ∧ q = v) ∨ (p = m ∧ q = n)) => mkBol (v := r) (b := eqB p q u v || eqB p q m n) (by rw [Bool.eq_iff_iff, h]; simp [eqB]) hB)
  clear hb1 K1 K2 hb k1 k2 k3 K3
  go_wp2
  all_goals
    go_ret
    refine HH.out _ ?_
    simp
    try omega

/-- two pairs of cells have a cell in common. -/
def ovP (x y m n u v s t : Int) : Bool := eqB x y u v || eqB x y s t || (eqB m n u v || eqB m n s t)
/-- two dominoes overlap. -/
def ovB (x y : Int) (b : Bool) (u v : Int) (c : Bool) : Bool := domB x y b && domB u v c && ovP x y (sx x b) (sy y b) u v (sx u c) (sy v c)
theorem ovP_iff {x y m n u v s t : Int} : ovP x y m n u v s t = true ↔ (x = u ∧ y = v) ∨ (x = s ∧ y = t) ∨ (m = u ∧ n = v) ∨ (m = s ∧ n = t) := by
  unfold ovP
  simp only [Bool.or_eq_true, eqB_iff]
  constructor
  · rintro ((h | h) | (h | h))
    · exact .inl h
    · exact .inr (.inl h)
    · exact .inr (.inr (.inl h))
    · exact .inr (.inr (.inr h))
  · rintro (h | h | h | h)
    · exact .inl (.inl h)
    · exact .inl (.inr h)
    · exact .inr (.inl h)
    · exact .inr (.inr h)

end Go.Proofs.Ytgkgdgchkhdgjaa.Dom
